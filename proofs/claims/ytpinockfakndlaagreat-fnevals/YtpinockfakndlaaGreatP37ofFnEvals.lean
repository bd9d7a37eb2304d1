/-
  Texts in one: EvTopS, MarkPlain, MarkTo, MarkText.
-/
import Derived.Test.YtpinockfakndlaaGreatP36ofFnEvals
import Derived.Test.YtpinockfakndlaaGreatP19ofFnEvals
import Derived.Test.YtpinockfakndlaaGreatP20ofFnEvals
import Derived.Test.YtpinockfakndlaaGreatP01ofFnEvals
import Derived.Test.YtpinockfakndlaaGreatRows
import Derived.Test.YtpinockfakndlaaGreatP09ofFnEvals
import Derived.WalkKit
import Derived.WalkLawsBesides
import Derived.Lib.SmallJoins
import Derived.Lib.ItoaLen
import Derived.Below
import Derived.Lib.Hide
/-
  What an expression is: Eval of the specification.
-/
namespace Go.Proofs.YtpinockfakndlaaGreat
open Go.RowKit Go.Lib
set_option linter.unusedSimpArgs false
set_option linter.unusedVariables false

set_option maxHeartbeats 4000000 in
set_option maxRecDepth 100000 in
theorem spec_Eval (ts : List AR) (F : SF) (ns : List ByteArray) (A : List (List Int)) (V O : List Int) (bs : List AR) (x : X) (hl : RL ts ns A V bs) (hO : O.length ≤ 100000000) (hx : xsize x ≤ 1048576) (va vb sa sv so bv v : Value) (en : Int) (w : World) (ha : AV w 0 va ts) (hb : SV w 0 F vb) (hs : StoV w sa sv so A V O) (hbb : AV w 0 bv bs) (hv : EV w 0 x.l v)
    (hV : ∀ w v, SV w 0 F v → Calls Tryz.prog 35 #[v] w fun e w' => ∃ nv, e = .returned nv ∧ TV w' 0 nv ns ∧ Below w.heap.size w w') :
    Calls Tryz.prog 17 #[.agg #[va, vb], .agg #[sa, sv, so, .int .i64 en], bv, .agg #[.int .i64 x.h.k, .int .i64 x.h.n, .string x.h.s, v]] w fun e w' => e = valR (evalP ts ns A V bs x) ∧ Below w.heap.size w w' := by
  have HA := Lib.hid (And.intro ha (And.intro hb (And.intro hs (And.intro hbb hv))))
  have HV := Lib.hid hV
  have HL := Lib.hid hl
  have HXS := Lib.hid hx
  have V0 := Lib.hid (VB.start w va vb sa sv so en #[.int .i64 x.h.k, .int .i64 x.h.n, .string x.h.s, v] 43)
  obtain ⟨a1, b1, rfl⟩ := ha.shape
  obtain ⟨a2, b2, rfl⟩ := hb.shape
  obtain ⟨a3, b3, rfl⟩ := hs.a.shape
  obtain ⟨a4, b4, rfl⟩ := hs.v.shape
  obtain ⟨a5, b5, rfl⟩ := hs.o.shape
  obtain ⟨a6, b6, rfl⟩ := hbb.shape
  obtain ⟨a7, b7, rfl⟩ := hv.shape
  clear ha hb hs hbb hv hV hl hx hO
  go_enter Tryz.func17, Tryz.ntmps17
  go_wp2_with (refine wpList_load_mid rfl 43 _ rfl (w.heap.size + 2) 0 rfl _ _ V0.out.re Tryz.underlying43 rfl sizeExp4 ?_)
  refine (spec_ExpOk x HXS.out _ _ (HA.out.2.2.2.2.later V0.out.b)).mono ?_
  rintro e w1 ⟨rfl, hb1⟩
  have V1 := Lib.hid (V0.out.later hb1)
  clear hb1 V0
  obtain ⟨ok, hok⟩ : ∃ ok, expOk x = ok := ⟨_, rfl⟩
  rw [hok]
  cases ok with
  | false =>
    have hr : Hid (evalP ts ns A V bs x = none) := show evalP ts ns A V bs x = none by rw [evalP, hok]; rfl
    clear hok
    go_wp2
    exact bodyPost_ret (v := .tuple #[.int .i64 0, .bool false]) (by simp [results, Tryz.results17, go_sem]) rfl ⟨by rw [hr.out]; rfl, V1.out.b⟩
  | true =>
  have hr : Hid (evalP ts ns A V bs x = evX ts A (withN bs (varN ns V)) 8 x) := show evalP ts ns A V bs x = _ by rw [evalP, hok]; rfl
  have TX : Hid (toldX 8 x = true) := by unfold expOk at hok; simp at hok; exact hok.1
  clear hok
  go_wp2_with fail
  have bd : Below w1.heap.size w1 w1.drew := (Below.refl _ w1).drew
  have Vd := V1.out.later bd
  refine wp_region_held_drew (S := fun w' => w'.rangeAt w.heap.size 0 [.slice a1 ts.length b1, .slice a2 (slen F) b2] ∧ w'.rangeAt (w.heap.size + 1) 0 [.slice a3 A.length b3, .slice a4 V.length b4, .slice a5 O.length b5, .int .i64 en] ∧ w'.rangeAt (w.heap.size + 2) 0 [.int .i64 x.h.k, .int .i64 x.h.n, .string x.h.s, .slice a7 (elen x.l) b7]) (by kernel_rfl) ⟨Vd.rp, Vd.rs, Vd.re⟩ (fun hHeld => ?_)
  refine wpAnyH_take (i := 0) (v := .agg ([.slice a1 ts.length b1, .slice a2 (slen F) b2] : List Value).toArray) rfl (by kernel_rfl) (by kernel_rfl) (by kernel_rfl) (fun _ _ _ h => h) (yieldsIf_load_mid (by rfl) 27 _ rfl (w.heap.size) (0) rfl [.slice a1 ts.length b1, .slice a2 (slen F) b2] _ (fun w h => h.1) Tryz.underlying27 rfl sizeProg2) hHeld ?_
  simp only [Act.put, List.getElem_toArray, List.getElem_cons_succ, List.getElem_cons_zero, List.setIfInBounds_toArray, List.set_cons_zero, List.set_cons_succ]
  refine wpAnyH_take (i := 1) (v := .pointer (some ⟨w.heap.size, 1, Option.none⟩)) rfl (by kernel_rfl) (by kernel_rfl) (by kernel_rfl) (fun _ _ _ h => h) (Or.inl ⟨by rfl, ?sa1⟩) hHeld ?_
  case sa1 => intro w hSw; go_simp
  simp only [Act.put, List.getElem_toArray, List.getElem_cons_succ, List.getElem_cons_zero, List.setIfInBounds_toArray, List.set_cons_zero, List.set_cons_succ]
  refine wpAnyH_take (i := 2) (v := .slice a2 (slen F) b2) rfl (by kernel_rfl) (by kernel_rfl) (by kernel_rfl) (fun _ _ _ h => h) (Or.inl ⟨by rfl, ?sa2⟩) hHeld ?_
  case sa2 => intro w hSw; have h2 := hSw.1 1 _ rfl; go_simp
  simp only [Act.put, List.getElem_toArray, List.getElem_cons_succ, List.getElem_cons_zero, List.setIfInBounds_toArray, List.set_cons_zero, List.set_cons_succ]
  refine wpAnyH_take (i := 4) (v := .agg ([.slice a3 A.length b3, .slice a4 V.length b4, .slice a5 O.length b5, .int .i64 en] : List Value).toArray) rfl (by kernel_rfl) (by kernel_rfl) (by kernel_rfl) (fun _ _ _ h => h) (yieldsIf_load_mid (by rfl) 33 _ rfl (w.heap.size + 1) (0) rfl [.slice a3 A.length b3, .slice a4 V.length b4, .slice a5 O.length b5, .int .i64 en] _ (fun w h => h.2.1) Tryz.underlying33 rfl sizeSto2) hHeld ?_
  simp only [Act.put, List.getElem_toArray, List.getElem_cons_succ, List.getElem_cons_zero, List.setIfInBounds_toArray, List.set_cons_zero, List.set_cons_succ]
  refine wpAnyH_take (i := 5) (v := .slice a6 bs.length b6) rfl (by kernel_rfl) (by kernel_rfl) (by kernel_rfl) (fun _ _ _ h => h) (Or.inl ⟨by rfl, ?sa5⟩) hHeld ?_
  case sa5 => intro w hSw; go_simp
  simp only [Act.put, List.getElem_toArray, List.getElem_cons_succ, List.getElem_cons_zero, List.setIfInBounds_toArray, List.set_cons_zero, List.set_cons_succ]
  refine wpAnyH_ready (rs := [3]) (by kernel_rfl) (by simp) ?_
  refine AllReadyH.cons rfl (fun K hK => ?_) AllReadyH.nil
  rw [if_pos (by rfl)]
  simp only [List.getElem_toArray, List.getElem_cons_succ, List.getElem_cons_zero]
  go_wp2_with fail
  refine (HV.out _ _ (HA.out.2.1.later Vd.b)).mono ?_
  rintro e w2 ⟨nv, rfl, hn2, hb2⟩
  have N2 := Lib.hid hn2
  obtain ⟨n1, n2, rfl⟩ := hn2.shape
  have V2 := Lib.hid (Vd.later hb2)
  go_wp2_with fail
  refine hK.out _ _ (⟨rangeAt_later hHeld.1 hb2, rangeAt_later hHeld.2.1 hb2, rangeAt_later hHeld.2.2 hb2⟩) (fun hHeld => ?_)
  clear hb2 hn2 Vd bd V1
  refine wpAnyH_take (i := 6) (v := .agg #[.slice a1 ts.length b1, .slice a2 (slen F) b2, .slice n1 ns.length n2, .slice a3 A.length b3, .slice a4 V.length b4, .slice a5 O.length b5, .int .i64 en, .slice a6 bs.length b6, .int .i64 0]) rfl (by kernel_rfl) (by kernel_rfl) (by kernel_rfl) (fun _ _ _ h => h) (Or.inl ⟨by rfl, ?sb6⟩) hHeld ?_
  case sb6 => intro w hSw; go_simp
  simp only [Act.put, List.getElem_toArray, List.getElem_cons_succ, List.getElem_cons_zero, List.setIfInBounds_toArray, List.set_cons_zero, List.set_cons_succ]
  refine wpAnyH_ready (rs := [7]) (by kernel_rfl) (by simp) ?_
  refine AllReadyH.cons rfl (fun K hK => ?_) AllReadyH.nil
  rw [if_pos (by rfl)]
  simp only [List.getElem_toArray, List.getElem_cons_succ, List.getElem_cons_zero]
  go_wp2_with fail
  have hb3 := alloc_below w2 (.cells #[.slice a1 ts.length b1, .slice a2 (slen F) b2, .slice n1 ns.length n2, .slice a3 A.length b3, .slice a4 V.length b4, .slice a5 O.length b5, .int .i64 en, .slice a6 bs.length b6, .int .i64 0] 71)
  refine hK.out _ _ (⟨rangeAt_later hHeld.1 hb3, rangeAt_later hHeld.2.1 hb3, rangeAt_later hHeld.2.2 hb3⟩) (fun hHeld => ?_)
  refine wpAnyH_take (i := 8) (v := .pointer (some ⟨w2.heap.size, 0, Option.none⟩)) rfl (by kernel_rfl) (by kernel_rfl) (by kernel_rfl) (fun _ _ _ h => h) (Or.inl ⟨by rfl, ?sc8⟩) hHeld ?_
  case sc8 => intro w hSw; go_simp
  simp only [Act.put, List.getElem_toArray, List.getElem_cons_succ, List.getElem_cons_zero, List.setIfInBounds_toArray, List.set_cons_zero, List.set_cons_succ]
  refine wpAnyH_done (by kernel_rfl) ?_ _
  clear hHeld
  have V3 := Lib.hid (V2.out.later hb3)
  have RR3 : Hid (RR (w2.alloc (.cells #[.slice a1 ts.length b1, .slice a2 (slen F) b2, .slice n1 ns.length n2, .slice a3 A.length b3, .slice a4 V.length b4, .slice a5 O.length b5, .int .i64 en, .slice a6 bs.length b6, .int .i64 0] 71)) w2.heap.size ts ns A V bs (.slice a1 ts.length b1) (.slice a2 (slen F) b2) (.slice n1 ns.length n2) (.slice a3 A.length b3) (.slice a4 V.length b4) (.slice a5 O.length b5) en (.slice a6 bs.length b6) 0) := ⟨blkLast _ _, HA.out.1.later V3.out.b, N2.out.later hb3, HA.out.2.2.1.a.later V3.out.b, HA.out.2.2.1.v.later V3.out.b, HA.out.2.2.2.1.later V3.out.b⟩
  have HE3 := Lib.hid (HA.out.2.2.2.2.later V3.out.b)
  clear hb3 V2
  go_wp2_with (refine wpList_load_mid rfl 43 _ rfl (w.heap.size + 2) 0 rfl _ _ V3.out.re Tryz.underlying43 rfl sizeExp4 ?_)
  refine (l7Exp_all HL.out rfl 8 x _ _ TX.out HE3.out RR3.out).mono ?_
  rintro e w5 ⟨he, hb5⟩
  have B5 := Lib.hid (V3.out.b.trans (hb5.mono V3.out.b.size))
  obtain ⟨r, hrr⟩ : ∃ r, evX ts A (withN bs (varN ns V)) 8 x = r := ⟨_, rfl⟩
  rw [hrr] at hr he
  obtain rfl : e = .returned (.tuple #[.int .i64 (r.getD 0), .bool r.isSome]) := he
  clear hb5 hrr
  go_wp2
  exact bodyPost_ret (v := .tuple #[.int .i64 (r.getD 0), .bool r.isSome]) (by simp [results, Tryz.results17, go_sem]) rfl ⟨by rw [hr.out]; rfl, B5.out⟩
end Go.Proofs.YtpinockfakndlaaGreat
/-
  Trees in cells that are not frozen: a copy of the call's own, which may be written over.
-/
namespace Go.Proofs.YtpinockfakndlaaGreat
open Go.RowKit Go.Lib
set_option linter.unusedSimpArgs false
set_option linter.unusedVariables false

/-- What stands in a cell that may be written. -/
def rdF (w : World) (a : Addr) : Option Value := if w.frozen? a = true then Option.none else w.cell? a
theorem rdF_iff {w : World} {a : Addr} {v : Value} : rdF w a = some v ↔ w.frozen? a = false ∧ w.cell? a = some v := by
  unfold rdF
  cases h : w.frozen? a <;> simp
theorem keepsF {w w' : World} (hb : Below w.heap.size w w') {a : Addr} {v : Value} (h : rdF w a = some v) : rdF w' a = some v := by
  obtain ⟨h1, h2⟩ := rdF_iff.1 h
  refine rdF_iff.2 ⟨?_, keeps hb h2⟩
  have := hb.block a.block (lt_of_cellA h2)
  unfold World.frozen? at h1 ⊢
  simp only [this]; exact h1
def KeepsF (lo : Nat) (w w' : World) : Prop := ∀ (a : Addr) v, lo ≤ a.block → rdF w a = some v → rdF w' a = some v
theorem KeepsF.refl (lo : Nat) (w : World) : KeepsF lo w w := fun _ _ _ h => h
theorem KeepsF.trans {lo : Nat} {w w1 w2 : World} (h : KeepsF lo w w1) (g : KeepsF lo w1 w2) : KeepsF lo w w2 := fun a v hl hc => g a v hl (h a v hl hc)
theorem KeepsF.later {lo : Nat} {w w' : World} (hb : Below w.heap.size w w') : KeepsF lo w w' := fun _ _ _ hc => keepsF hb hc
theorem KeepsF.set {lo : Nat} (w : World) (p : Addr) (hg : p.block < lo) (u : Value) : KeepsF lo w (w.setCell p u) := fun a v hl hc => by
  obtain ⟨h1, h2⟩ := rdF_iff.1 hc
  exact rdF_iff.2 ⟨by simpa using h1, by rw [World.cell?_setCell_other _ _ _ _ (fun e => by subst e; omega)]; exact h2⟩
theorem KeepsF.sets {lo g : Nat} (hg : g < lo) : ∀ (vs : List Value) (w : World) (o : Nat), KeepsF lo w (w.setCells g o vs)
  | [], w, o => KeepsF.refl _ _
  | v :: vs, w, o => by rw [World.setCells]; exact (KeepsF.set w ⟨g, o, Option.none⟩ hg v).trans (KeepsF.sets hg vs _ _)
def rgF (w : World) (b o : Nat) (cs : List Value) : Prop := ∀ j v, cs[j]? = some v → rdF w ⟨b, o + j, Option.none⟩ = some v
theorem rgF_of {w : World} {b o n : Nat} {cs : List Value} (h : w.rangeAt b o cs) (t : w.there b o n) (hn : cs.length ≤ n) : rgF w b o cs := fun j v hj =>
  rdF_iff.2 ⟨(t j (Nat.lt_of_lt_of_le (List.getElem?_eq_some_iff.1 hj).1 hn)).2, h j v hj⟩
/-- A row of expressions lies at b, o; all that stands under them lies at lo or above. -/
def EInF (w : World) (lo : Nat) : EF → Nat → Nat → Prop
  | .nil, _, _ => True
  | .node _ _ h l r, b, o =>
    (rdF w ⟨b, o, Option.none⟩ = some (.int .i64 h.k) ∧ rdF w ⟨b, o + 1, Option.none⟩ = some (.int .i64 h.n) ∧ rdF w ⟨b, o + 2, Option.none⟩ = some (.string h.s) ∧
      ∃ v, rdF w ⟨b, o + 3, Option.none⟩ = some v ∧ ∃ b' o' a' c', v = .slice a' (elen l) c' ∧ (a' = some ⟨b', o', Option.none⟩ ∨ l = .nil) ∧ lo ≤ b' ∧ EInF w lo l b' o') ∧ EInF w lo r b (o + 4)
/-- A slice that holds a row of expressions. -/
def EVF (w : World) (lo : Nat) (F : EF) (v : Value) : Prop := ∃ b o a c, v = .slice a (elen F) c ∧ (a = some ⟨b, o, Option.none⟩ ∨ F = .nil) ∧ lo ≤ b ∧ EInF w lo F b o
/-- An expression in four cells. -/
def XCF (w : World) (lo : Nat) (x : X) (b o : Nat) : Prop :=
  rdF w ⟨b, o, Option.none⟩ = some (.int .i64 x.h.k) ∧ rdF w ⟨b, o + 1, Option.none⟩ = some (.int .i64 x.h.n) ∧ rdF w ⟨b, o + 2, Option.none⟩ = some (.string x.h.s) ∧
    ∃ v, rdF w ⟨b, o + 3, Option.none⟩ = some v ∧ EVF w lo x.l v
theorem EInF_node {w : World} {lo b o p q : Nat} {h : EH} {l r : EF} : EInF w lo (.node p q h l r) b o ↔ XCF w lo ⟨h, l⟩ b o ∧ EInF w lo r b (o + 4) := Iff.rfl
theorem EInF_same {w w' : World} {lo lo' : Nat} (hlo : lo' ≤ lo) (hs : ∀ (a : Addr) v, lo ≤ a.block → rdF w a = some v → rdF w' a = some v) : ∀ (F : EF) (b o : Nat), lo ≤ b → EInF w lo F b o → EInF w' lo' F b o
  | .nil, _, _, _, _ => trivial
  | .node _ _ h l r, b, o, hb, ⟨⟨h0, h1, h2, v, h3, b', o', a', c', e1, e2, e3, h4⟩, h5⟩ =>
    ⟨⟨hs _ _ hb h0, hs _ _ hb h1, hs _ _ hb h2, v, hs _ _ hb h3, b', o', a', c', e1, e2, Nat.le_trans hlo e3, EInF_same hlo hs l b' o' e3 h4⟩, EInF_same hlo hs r b _ hb h5⟩
theorem EVF.same {w w' : World} {lo lo' : Nat} {F : EF} {v : Value} (hlo : lo' ≤ lo) (h : EVF w lo F v) (hs : ∀ (a : Addr) v, lo ≤ a.block → rdF w a = some v → rdF w' a = some v) : EVF w' lo' F v := by
  obtain ⟨b, o, a, c, h1, h2, h3, h4⟩ := h
  exact ⟨b, o, a, c, h1, h2, Nat.le_trans hlo h3, EInF_same hlo hs F b o h3 h4⟩
theorem EVF.low {w : World} {lo : Nat} {F : EF} {v : Value} (h : EVF w lo F v) : EVF w 0 F v := h.same (Nat.zero_le _) fun _ _ _ h => h
theorem EVF.lower {w : World} {lo lo' : Nat} {F : EF} {v : Value} (h : EVF w lo F v) (hlo : lo' ≤ lo) : EVF w lo' F v := h.same hlo fun _ _ _ h => h
theorem EVF.later {w w' : World} {lo : Nat} {F : EF} {v : Value} (h : EVF w lo F v) (hb : Below w.heap.size w w') : EVF w' lo F v := h.same (Nat.le_refl _) fun _ _ _ hc => keepsF hb hc
theorem XCF.later {w w' : World} {lo : Nat} {x : X} {b o : Nat} (h : XCF w lo x b o) (hb : Below w.heap.size w w') : XCF w' lo x b o := by
  obtain ⟨h0, h1, h2, v, h3, h4⟩ := h
  exact ⟨keepsF hb h0, keepsF hb h1, keepsF hb h2, v, keepsF hb h3, h4.later hb⟩
theorem EInF_later {w w' : World} {lo : Nat} (hb : Below w.heap.size w w') : ∀ (F : EF) (b o : Nat), EInF w lo F b o → EInF w' lo F b o
  | .nil, _, _, _ => trivial
  | .node _ _ _ _ r, b, o, ⟨h1, h2⟩ => ⟨XCF.later (x := ⟨_, _⟩) h1 hb, EInF_later hb r b _ h2⟩
theorem EVF.shape {w : World} {lo : Nat} {F : EF} {v : Value} (h : EVF w lo F v) : ∃ a c, v = .slice a (elen F) c := by
  obtain ⟨b, o, a, c, h1, _⟩ := h; exact ⟨a, c, h1⟩
theorem EVF.nil (w : World) (lo : Nat) (a : Option Addr) (c : Nat) : EVF w lo .nil (.slice a 0 c) := ⟨lo, 0, a, c, rfl, .inr rfl, Nat.le_refl _, trivial⟩

/-- A row of statements lies at b, o. -/
def SInF (w : World) (lo : Nat) : SF → Nat → Nat → Prop
  | .nil, _, _ => True
  | .node _ _ h l r, b, o =>
    (rdF w ⟨b, o, Option.none⟩ = some (.int .i64 h.k) ∧ rdF w ⟨b, o + 1, Option.none⟩ = some (.string h.s) ∧ XCF w lo h.x1 b (o + 2) ∧ XCF w lo h.x2 b (o + 6) ∧ XCF w lo h.x3 b (o + 10) ∧ XCF w lo h.x4 b (o + 14) ∧
      ∃ v, rdF w ⟨b, o + 18, Option.none⟩ = some v ∧ ∃ b' o' a' c', v = .slice a' (slen l) c' ∧ (a' = some ⟨b', o', Option.none⟩ ∨ l = .nil) ∧ lo ≤ b' ∧ SInF w lo l b' o') ∧ SInF w lo r b (o + 19)
def SVF (w : World) (lo : Nat) (F : SF) (v : Value) : Prop := ∃ b o a c, v = .slice a (slen F) c ∧ (a = some ⟨b, o, Option.none⟩ ∨ F = .nil) ∧ lo ≤ b ∧ SInF w lo F b o
/-- A statement in nineteen cells. -/
def SCF (w : World) (lo : Nat) (h : SH) (l : SF) (b o : Nat) : Prop :=
  rdF w ⟨b, o, Option.none⟩ = some (.int .i64 h.k) ∧ rdF w ⟨b, o + 1, Option.none⟩ = some (.string h.s) ∧ XCF w lo h.x1 b (o + 2) ∧ XCF w lo h.x2 b (o + 6) ∧ XCF w lo h.x3 b (o + 10) ∧ XCF w lo h.x4 b (o + 14) ∧
      ∃ v, rdF w ⟨b, o + 18, Option.none⟩ = some v ∧ SVF w lo l v
theorem SInF_node {w : World} {lo b o p q : Nat} {h : SH} {l r : SF} : SInF w lo (.node p q h l r) b o ↔ SCF w lo h l b o ∧ SInF w lo r b (o + 19) := Iff.rfl
theorem XCF.same {w w' : World} {lo lo' : Nat} {x : X} {b o : Nat} (hlo : lo' ≤ lo) (hb : lo ≤ b) (h : XCF w lo x b o) (hs : ∀ (a : Addr) v, lo ≤ a.block → rdF w a = some v → rdF w' a = some v) : XCF w' lo' x b o := by
  obtain ⟨h0, h1, h2, v, h3, h4⟩ := h
  exact ⟨hs _ _ hb h0, hs _ _ hb h1, hs _ _ hb h2, v, hs _ _ hb h3, h4.same hlo hs⟩
theorem SInF_same {w w' : World} {lo lo' : Nat} (hlo : lo' ≤ lo) (hs : ∀ (a : Addr) v, lo ≤ a.block → rdF w a = some v → rdF w' a = some v) : ∀ (F : SF) (b o : Nat), lo ≤ b → SInF w lo F b o → SInF w' lo' F b o
  | .nil, _, _, _, _ => trivial
  | .node _ _ h l r, b, o, hb, ⟨⟨h0, h1, h2, h3, h4, h5, v, h6, b', o', a', c', e1, e2, e3, h7⟩, h8⟩ =>
    ⟨⟨hs _ _ hb h0, hs _ _ hb h1, h2.same hlo hb hs, h3.same hlo hb hs, h4.same hlo hb hs, h5.same hlo hb hs, v, hs _ _ hb h6, b', o', a', c', e1, e2, Nat.le_trans hlo e3, SInF_same hlo hs l b' o' e3 h7⟩, SInF_same hlo hs r b _ hb h8⟩
theorem SVF.same {w w' : World} {lo lo' : Nat} {F : SF} {v : Value} (hlo : lo' ≤ lo) (h : SVF w lo F v) (hs : ∀ (a : Addr) v, lo ≤ a.block → rdF w a = some v → rdF w' a = some v) : SVF w' lo' F v := by
  obtain ⟨b, o, a, c, h1, h2, h3, h4⟩ := h
  exact ⟨b, o, a, c, h1, h2, Nat.le_trans hlo h3, SInF_same hlo hs F b o h3 h4⟩
theorem SVF.low {w : World} {lo : Nat} {F : SF} {v : Value} (h : SVF w lo F v) : SVF w 0 F v := h.same (Nat.zero_le _) fun _ _ _ h => h
theorem SVF.lower {w : World} {lo lo' : Nat} {F : SF} {v : Value} (h : SVF w lo F v) (hlo : lo' ≤ lo) : SVF w lo' F v := h.same hlo fun _ _ _ h => h
theorem SVF.later {w w' : World} {lo : Nat} {F : SF} {v : Value} (h : SVF w lo F v) (hb : Below w.heap.size w w') : SVF w' lo F v := h.same (Nat.le_refl _) fun _ _ _ hc => keepsF hb hc
theorem SCF.later {w w' : World} {lo : Nat} {h : SH} {l : SF} {b o : Nat} (hc : SCF w lo h l b o) (hb : Below w.heap.size w w') : SCF w' lo h l b o := by
  obtain ⟨h0, h1, h2, h3, h4, h5, v, h6, h7⟩ := hc
  exact ⟨keepsF hb h0, keepsF hb h1, h2.later hb, h3.later hb, h4.later hb, h5.later hb, v, keepsF hb h6, h7.later hb⟩
theorem SInF_later {w w' : World} {lo : Nat} (hb : Below w.heap.size w w') : ∀ (F : SF) (b o : Nat), SInF w lo F b o → SInF w' lo F b o
  | .nil, _, _, _ => trivial
  | .node _ _ h l r, b, o, hc => ⟨SCF.later (SInF_node.1 hc).1 hb, SInF_later hb r b _ (SInF_node.1 hc).2⟩
theorem SVF.shape {w : World} {lo : Nat} {F : SF} {v : Value} (h : SVF w lo F v) : ∃ a c, v = .slice a (slen F) c := by
  obtain ⟨b, o, a, c, h1, _⟩ := h; exact ⟨a, c, h1⟩
theorem SVF.nil (w : World) (lo : Nat) (a : Option Addr) (c : Nat) : SVF w lo .nil (.slice a 0 c) := ⟨lo, 0, a, c, rfl, .inr rfl, Nat.le_refl _, trivial⟩

/-- The cells that hold a row of expressions. -/
def ERowF (w : World) (lo : Nat) : EF → List Value → Prop
  | .nil, xs => xs = []
  | .node _ _ h l r, xs => ∃ v ys, xs = .int .i64 h.k :: .int .i64 h.n :: .string h.s :: v :: ys ∧ EVF w lo l v ∧ ERowF w lo r ys
theorem ERowF.length {w : World} {lo : Nat} : ∀ {F : EF} {xs : List Value}, ERowF w lo F xs → xs.length = elen F * 4
  | .nil, xs, h => by rw [h]; rfl
  | .node _ _ _ _ r, xs, ⟨v, ys, e, _, h⟩ => by have := ERowF.length h; subst e; simp only [List.length_cons, elen]; omega
theorem ERowF.app {w : World} {lo : Nat} : ∀ {P R : EF} {xs ys : List Value}, ERowF w lo P xs → ERowF w lo R ys → ERowF w lo (eapp P R) (xs ++ ys)
  | .nil, _, _, _, h, g => by rw [show _ = [] from h]; exact g
  | .node _ _ _ _ r, _, _, _, ⟨v, zs, e, hv, h⟩, g => ⟨v, _, by rw [e]; rfl, hv, ERowF.app h g⟩
theorem ERowF.one {w : World} {lo p q : Nat} {h : EH} {l : EF} {v : Value} (hv : EVF w lo l v) : ERowF w lo (.node p q h l .nil) [.int .i64 h.k, .int .i64 h.n, .string h.s, v] := ⟨v, [], rfl, hv, rfl⟩
theorem ERowF.same {w w' : World} {lo lo' : Nat} (hlo : lo' ≤ lo) (hs : ∀ (a : Addr) v, lo ≤ a.block → rdF w a = some v → rdF w' a = some v) : ∀ {F : EF} {xs : List Value}, ERowF w lo F xs → ERowF w' lo' F xs
  | .nil, _, h => h
  | .node _ _ _ _ r, _, ⟨v, zs, e, hv, h⟩ => ⟨v, zs, e, hv.same hlo hs, ERowF.same hlo hs h⟩
theorem ERowF.laid {w : World} {lo g : Nat} : ∀ {F : EF} {xs : List Value} (o : Nat), ERowF w lo F xs → (∀ j u, xs[j]? = some u → rdF w ⟨g, o + j, Option.none⟩ = some u) → EInF w lo F g o
  | .nil, _, _, _, _ => trivial
  | .node _ _ _ _ r, _, o, ⟨v, zs, e, hv, h⟩, hc => by
    subst e
    refine EInF_node.2 ⟨⟨hc 0 _ rfl, hc 1 _ rfl, hc 2 _ rfl, v, hc 3 _ rfl, hv⟩, ERowF.laid (o + 4) h fun j u hj => ?_⟩
    have := hc (j + 4) u (by simpa using hj)
    rwa [show o + (j + 4) = o + 4 + j by omega] at this
/-- The cells that hold a row of statements. -/
def SRowF (w : World) (lo : Nat) : SF → List Value → Prop
  | .nil, xs => xs = []
  | .node _ _ h l r, xs => ∃ v1 v2 v3 v4 v ys, xs = scells h v1 v2 v3 v4 v ++ ys ∧ EVF w lo h.x1.l v1 ∧ EVF w lo h.x2.l v2 ∧ EVF w lo h.x3.l v3 ∧ EVF w lo h.x4.l v4 ∧ SVF w lo l v ∧ SRowF w lo r ys
theorem SRowF.length {w : World} {lo : Nat} : ∀ {F : SF} {xs : List Value}, SRowF w lo F xs → xs.length = slen F * 19
  | .nil, xs, h => by rw [h]; rfl
  | .node _ _ _ _ r, xs, ⟨_, _, _, _, v, ys, e, _, _, _, _, _, h⟩ => by have := SRowF.length h; subst e; simp only [scells, xcells, List.length_cons, List.length_append, List.length_nil, slen]; omega
theorem SRowF.app {w : World} {lo : Nat} : ∀ {P R : SF} {xs ys : List Value}, SRowF w lo P xs → SRowF w lo R ys → SRowF w lo (sapp P R) (xs ++ ys)
  | .nil, _, _, _, h, g => by rw [show _ = [] from h]; exact g
  | .node _ _ _ _ r, _, _, _, ⟨v1, v2, v3, v4, v, zs, e, h1, h2, h3, h4, hv, h⟩, g => ⟨v1, v2, v3, v4, v, _, by rw [e, List.append_assoc], h1, h2, h3, h4, hv, SRowF.app h g⟩
theorem SRowF.one {w : World} {lo p q : Nat} {h : SH} {l : SF} {v1 v2 v3 v4 v : Value} (h1 : EVF w lo h.x1.l v1) (h2 : EVF w lo h.x2.l v2) (h3 : EVF w lo h.x3.l v3) (h4 : EVF w lo h.x4.l v4) (hv : SVF w lo l v) : SRowF w lo (.node p q h l .nil) (scells h v1 v2 v3 v4 v) :=
  ⟨v1, v2, v3, v4, v, [], by rw [List.append_nil], h1, h2, h3, h4, hv, rfl⟩
theorem SRowF.same {w w' : World} {lo lo' : Nat} (hlo : lo' ≤ lo) (hs : ∀ (a : Addr) v, lo ≤ a.block → rdF w a = some v → rdF w' a = some v) : ∀ {F : SF} {xs : List Value}, SRowF w lo F xs → SRowF w' lo' F xs
  | .nil, _, h => h
  | .node _ _ _ _ r, _, ⟨v1, v2, v3, v4, v, zs, e, h1, h2, h3, h4, hv, h⟩ => ⟨v1, v2, v3, v4, v, zs, e, h1.same hlo hs, h2.same hlo hs, h3.same hlo hs, h4.same hlo hs, hv.same hlo hs, SRowF.same hlo hs h⟩
theorem SRowF.laid {w : World} {lo g : Nat} : ∀ {F : SF} {xs : List Value} (o : Nat), SRowF w lo F xs → (∀ j u, xs[j]? = some u → rdF w ⟨g, o + j, Option.none⟩ = some u) → SInF w lo F g o
  | .nil, _, _, _, _ => trivial
  | .node _ _ _ _ r, _, o, ⟨v1, v2, v3, v4, v, zs, e, h1, h2, h3, h4, hv, h⟩, hc => by
    subst e
    have hx : ∀ (x : X) (u : Value) (i : Nat), EVF w lo x.l u → rdF w ⟨g, o + i, Option.none⟩ = some (.int .i64 x.h.k) → rdF w ⟨g, o + (i + 1), Option.none⟩ = some (.int .i64 x.h.n) → rdF w ⟨g, o + (i + 2), Option.none⟩ = some (.string x.h.s) → rdF w ⟨g, o + (i + 3), Option.none⟩ = some u → XCF w lo x g (o + i) :=
      fun x u i he a0 a1 a2 a3 => ⟨a0, by rw [Nat.add_assoc]; exact a1, by rw [Nat.add_assoc]; exact a2, u, by rw [Nat.add_assoc]; exact a3, he⟩
    refine SInF_node.2 ⟨⟨hc 0 _ rfl, hc 1 _ rfl, hx _ v1 2 h1 (hc 2 _ rfl) (hc 3 _ rfl) (hc 4 _ rfl) (hc 5 _ rfl), hx _ v2 6 h2 (hc 6 _ rfl) (hc 7 _ rfl) (hc 8 _ rfl) (hc 9 _ rfl), hx _ v3 10 h3 (hc 10 _ rfl) (hc 11 _ rfl) (hc 12 _ rfl) (hc 13 _ rfl), hx _ v4 14 h4 (hc 14 _ rfl) (hc 15 _ rfl) (hc 16 _ rfl) (hc 17 _ rfl), v, hc 18 _ rfl, hv⟩, SRowF.laid (o + 19) h fun j u hj => ?_⟩
    have := hc (j + 19) u (by simpa [scells, xcells] using hj)
    rwa [show o + (j + 19) = o + 19 + j by omega] at this
theorem EInF_lower {w : World} {lo lo' : Nat} (hlo : lo' ≤ lo) : ∀ (F : EF) (b o : Nat), EInF w lo F b o → EInF w lo' F b o
  | .nil, _, _, _ => trivial
  | .node _ _ h l r, b, o, hc => by
    obtain ⟨⟨h0, h1, h2, v, h3, h4⟩, h5⟩ := EInF_node.1 hc
    exact EInF_node.2 ⟨⟨h0, h1, h2, v, h3, h4.lower hlo⟩, EInF_lower hlo r b _ h5⟩
theorem XCF.lower {w : World} {lo lo' : Nat} {x : X} {b o : Nat} (hlo : lo' ≤ lo) (h : XCF w lo x b o) : XCF w lo' x b o := by
  obtain ⟨h0, h1, h2, v, h3, h4⟩ := h
  exact ⟨h0, h1, h2, v, h3, h4.lower hlo⟩
theorem SInF_lower {w : World} {lo lo' : Nat} (hlo : lo' ≤ lo) : ∀ (F : SF) (b o : Nat), SInF w lo F b o → SInF w lo' F b o
  | .nil, _, _, _ => trivial
  | .node _ _ h l r, b, o, hc => by
    obtain ⟨⟨h0, h1, h2, h3, h4, h5, v, h6, h7⟩, h8⟩ := SInF_node.1 hc
    exact SInF_node.2 ⟨⟨h0, h1, h2.lower hlo, h3.lower hlo, h4.lower hlo, h5.lower hlo, v, h6, h7.lower hlo⟩, SInF_lower hlo r b _ h8⟩
theorem EVF.laid {w : World} {lo g : Nat} {F : EF} {xs : List Value} (h : ERowF w lo F xs) (hr : rgF w g 0 xs) (c : Nat) (hlo : g ≤ lo) : EVF w g F (.slice (some ⟨g, 0, Option.none⟩) (elen F) c) :=
  ⟨g, 0, _, c, rfl, .inl rfl, Nat.le_refl _, EInF_lower hlo _ _ _ (ERowF.laid 0 h (by simpa [rgF] using hr))⟩
theorem SVF.laid {w : World} {lo g : Nat} {F : SF} {xs : List Value} (h : SRowF w lo F xs) (hr : rgF w g 0 xs) (c : Nat) (hlo : g ≤ lo) : SVF w g F (.slice (some ⟨g, 0, Option.none⟩) (slen F) c) :=
  ⟨g, 0, _, c, rfl, .inl rfl, Nat.le_refl _, SInF_lower hlo _ _ _ (SRowF.laid 0 h (by simpa [rgF] using hr))⟩
theorem EVF.isOne {w : World} {lo : Nat} {F : EF} {v : Value} (h : EVF w lo F v) : v.oneCell' = true := by obtain ⟨a, c, rfl⟩ := h.shape; rfl
theorem SVF.isOne {w : World} {lo : Nat} {F : SF} {v : Value} (h : SVF w lo F v) : v.oneCell' = true := by obtain ⟨a, c, rfl⟩ := h.shape; rfl
structure HVF (w : World) (lo : Nat) (h : SH) (v1 v2 v3 v4 : Value) : Prop where
  e1 : EVF w lo h.x1.l v1
  e2 : EVF w lo h.x2.l v2
  e3 : EVF w lo h.x3.l v3
  e4 : EVF w lo h.x4.l v4
theorem HVF.later {w w' : World} {lo : Nat} {h : SH} {v1 v2 v3 v4 : Value} (hv : HVF w lo h v1 v2 v3 v4) (hb : Below w.heap.size w w') : HVF w' lo h v1 v2 v3 v4 := ⟨hv.e1.later hb, hv.e2.later hb, hv.e3.later hb, hv.e4.later hb⟩
theorem HVF.lower {w : World} {lo lo' : Nat} {h : SH} {v1 v2 v3 v4 : Value} (hv : HVF w lo h v1 v2 v3 v4) (hlo : lo' ≤ lo) : HVF w lo' h v1 v2 v3 v4 := ⟨hv.e1.lower hlo, hv.e2.lower hlo, hv.e3.lower hlo, hv.e4.lower hlo⟩
theorem HVF.same {w w' : World} {lo lo' : Nat} {h : SH} {v1 v2 v3 v4 : Value} (hv : HVF w lo h v1 v2 v3 v4) (hlo : lo' ≤ lo) (hs : KeepsF lo w w') : HVF w' lo' h v1 v2 v3 v4 := ⟨hv.e1.same hlo hs, hv.e2.same hlo hs, hv.e3.same hlo hs, hv.e4.same hlo hs⟩
theorem EInF.plain {w : World} {lo : Nat} : ∀ (F : EF) (b o : Nat), EInF w lo F b o → EIn w lo F b o
  | .nil, _, _, _ => trivial
  | .node _ _ h l r, b, o, ⟨⟨h0, h1, h2, v, h3, b', o', a', c', e1, e2, e3, h4⟩, h5⟩ => ⟨⟨(rdF_iff.1 h0).2, (rdF_iff.1 h1).2, (rdF_iff.1 h2).2, v, (rdF_iff.1 h3).2, b', o', a', c', e1, e2, e3, EInF.plain l b' o' h4⟩, EInF.plain r b _ h5⟩
theorem EVF.plain {w : World} {lo : Nat} {F : EF} {v : Value} (h : EVF w lo F v) : EV w lo F v := by
  obtain ⟨b, o, a, c, h1, h2, h3, h4⟩ := h
  exact ⟨b, o, a, c, h1, h2, h3, EInF.plain F b o h4⟩
theorem XCF.plain {w : World} {lo : Nat} {x : X} {b o : Nat} (h : XCF w lo x b o) : XC w lo x b o := by
  obtain ⟨h0, h1, h2, v, h3, h4⟩ := h
  exact ⟨(rdF_iff.1 h0).2, (rdF_iff.1 h1).2, (rdF_iff.1 h2).2, v, (rdF_iff.1 h3).2, h4.plain⟩
theorem SInF.plain {w : World} {lo : Nat} : ∀ (F : SF) (b o : Nat), SInF w lo F b o → SIn w lo F b o
  | .nil, _, _, _ => trivial
  | .node _ _ h l r, b, o, ⟨⟨h0, h1, h2, h3, h4, h5, v, h6, b', o', a', c', e1, e2, e3, h7⟩, h8⟩ => ⟨⟨(rdF_iff.1 h0).2, (rdF_iff.1 h1).2, h2.plain, h3.plain, h4.plain, h5.plain, v, (rdF_iff.1 h6).2, b', o', a', c', e1, e2, e3, SInF.plain l b' o' h7⟩, SInF.plain r b _ h8⟩
theorem SVF.plain {w : World} {lo : Nat} {F : SF} {v : Value} (h : SVF w lo F v) : SV w lo F v := by
  obtain ⟨b, o, a, c, h1, h2, h3, h4⟩ := h
  exact ⟨b, o, a, c, h1, h2, h3, SInF.plain F b o h4⟩
end Go.Proofs.YtpinockfakndlaaGreat
/-
  The contracts of toExp, toExpS, toStmt, toStmtS: a copy in memory of its own, which may be written over.
-/
namespace Go.Proofs.YtpinockfakndlaaGreat
open Go.RowKit Go.Lib
set_option linter.unusedSimpArgs false
set_option linter.unusedVariables false

theorem set5F {w w1 : World} {N : Nat} (hb : Below w.heap.size w w1) (hN : w.heap.size = N) (p x y z u : Value) : Below w.heap.size w (((((w1.setCell ⟨N + 2, 3, Option.none⟩ p).setCell ⟨N + 1, 0, Option.none⟩ x).setCell ⟨N + 1, 1, Option.none⟩ y).setCell ⟨N + 1, 2, Option.none⟩ z).setCell ⟨N + 1, 3, Option.none⟩ u) ∧
    KeepsF (w.heap.size + 3) w1 (((((w1.setCell ⟨N + 2, 3, Option.none⟩ p).setCell ⟨N + 1, 0, Option.none⟩ x).setCell ⟨N + 1, 1, Option.none⟩ y).setCell ⟨N + 1, 2, Option.none⟩ z).setCell ⟨N + 1, 3, Option.none⟩ u) := by
  subst hN
  exact ⟨((((hb.setCell (p := ⟨w.heap.size + 2, 3, Option.none⟩) (by simp) _).setCell (p := ⟨w.heap.size + 1, 0, Option.none⟩) (by simp) _).setCell (p := ⟨w.heap.size + 1, 1, Option.none⟩) (by simp) _).setCell (p := ⟨w.heap.size + 1, 2, Option.none⟩) (by simp) _).setCell (p := ⟨w.heap.size + 1, 3, Option.none⟩) (by simp) _,
    ((((KeepsF.set _ _ (by simp) _).trans (KeepsF.set _ _ (by simp) _)).trans (KeepsF.set _ _ (by simp) _)).trans (KeepsF.set _ _ (by simp) _)).trans (KeepsF.set _ _ (by simp) _)⟩
/-- One more expression behind those that are laid. -/
theorem ERowF.next {w w' : World} {lo g : Nat} {P : EF} {xs : List Value} {h : EH} {l : EF} {v : Value} (p q : Nat) (hP : ERowF w lo P xs) (hk : KeepsF lo w w') (hv : EVF w' lo l v) (hr : w'.rangeAt g 0 xs) (h4 : w'.rangeAt g (elen P * 4) [.int .i64 h.k, .int .i64 h.n, .string h.s, v]) :
    ERowF w' lo (eapp P (.node p q h l .nil)) (xs ++ [.int .i64 h.k, .int .i64 h.n, .string h.s, v]) ∧ w'.rangeAt g 0 (xs ++ [.int .i64 h.k, .int .i64 h.n, .string h.s, v]) :=
  ⟨(ERowF.same (Nat.le_refl _) hk hP).app (ERowF.one hv), rangeAt_app hr (by rw [hP.length, Nat.zero_add]; exact h4)⟩
/-- A part that is laid: its four cells, and what stands under it. -/
structure GotF (w : World) (N o : Nat) (x : X) (u : Value) : Prop where
  rg : w.rangeAt (N + 2) o (xcells x u)
  ev : EVF w (N + 3) x.l u
theorem GotF.later {w w' : World} {N o : Nat} {x : X} {u : Value} (g : GotF w N o x u) (hb : Below w.heap.size w w') : GotF w' N o x u := ⟨rangeAt_later g.rg hb, g.ev.later hb⟩
theorem GotF.sets {w W : World} {N o o' : Nat} {x : X} {u : Value} {vs : List Value} (g : GotF w N o x u) (ho : o + 4 ≤ o') (hW : w.setCells (N + 2) o' vs = W) : GotF W N o x u := by
  subst hW
  exact ⟨World.rangeAt_setCells_apart g.rg _ _ _ (.inr (.inl ho)), g.ev.same (Nat.le_refl _) (KeepsF.sets (by omega) _ _ _)⟩
theorem GotF.new {w W : World} {N o lo : Nat} {x : X} {u : Value} (ht : w.there (N + 2) o 4) (hu : EVF w lo x.l u) (hlo : N + 3 ≤ lo) (hW : w.setCells (N + 2) o (xcells x u) = W) : GotF W N o x u := by
  subst hW
  exact ⟨World.rangeAt_setCells_same _ _ _ _ ht, (hu.lower hlo).same (Nat.le_refl _) (KeepsF.sets (by omega) _ _ _)⟩
/-- One more statement behind those that are laid. -/
theorem SRowF.next {w w' : World} {lo g : Nat} {P : SF} {xs : List Value} {h : SH} {l : SF} {v1 v2 v3 v4 v : Value} (p q : Nat) (hP : SRowF w lo P xs) (hk : KeepsF lo w w') (h1 : HVF w' lo h v1 v2 v3 v4) (hv : SVF w' lo l v) (hr : w'.rangeAt g 0 xs) (h4 : w'.rangeAt g (slen P * 19) (scells h v1 v2 v3 v4 v)) :
    SRowF w' lo (sapp P (.node p q h l .nil)) (xs ++ scells h v1 v2 v3 v4 v) ∧ w'.rangeAt g 0 (xs ++ scells h v1 v2 v3 v4 v) :=
  ⟨(SRowF.same (Nat.le_refl _) hk hP).app (SRowF.one h1.e1 h1.e2 h1.e3 h1.e4 hv), rangeAt_app hr (by rw [hP.length, Nat.zero_add]; exact h4)⟩
end Go.Proofs.YtpinockfakndlaaGreat
/-
  The contract of markText.
-/
namespace Go.Proofs.YtpinockfakndlaaGreat
open Go.RowKit Go.Lib
set_option linter.unusedSimpArgs false

theorem conv1M (w : World) (x : Int) (h0 : 0 ≤ x) (h1 : x < 256) :
    (convert 22 9 (.slice (some ⟨w.heap.size, 0, none⟩) 1 1)).run Tryz.prog (w.alloc (.cells #[.int .u8 x] 5)) = .ok (.string ⟨[UInt8.ofNat x.toNat].toArray⟩) (w.alloc (.cells #[.int .u8 x] 5)) := by
  refine run_convert_bytes_back (P := Tryz.prog) _ 22 9 5 ⟨w.heap.size, 0, none⟩ 1 [UInt8.ofNat x.toNat] Tryz.underlying22 Tryz.underlying5 Tryz.underlying9 ?_
  intro j hj
  simp at hj
  subst hj
  have e : ((UInt8.ofNat x.toNat).toNat : Int) = x := by simp; omega
  simp only [List.getElem_cons_zero, e]
  simp [Addr.add, World.cell?_alloc_new]
theorem cat1M (a b : List UInt8) : (⟨a.toArray⟩ : ByteArray) ++ ⟨b.toArray⟩ = ⟨(a ++ b).toArray⟩ := by
  apply ByteArray.ext
  simp
theorem digs_lenM {n u : Nat} {t : List UInt8} (h : Digs n u t) (hn : n < 18446744073709551616) : t.length ≤ 20 := by
  have hl := nDigits_le20 n hn
  rw [← decDigits_length, h] at hl
  simp at hl
  omega
theorem str_stepM (u : Nat) (t : List UInt8) : (⟨#[48 + UInt8.ofNat (u % 10)]⟩ : ByteArray) ++ ⟨t.toArray⟩ = ⟨(UInt8.ofNat (48 + u % 10) :: t).toArray⟩ := by
  have e : UInt8.ofNat (48 + u % 10) = 48 + UInt8.ofNat (u % 10) := by simp
  rw [e]
  exact cat1M [_] t
theorem val_strM {a b : ByteArray} (h : a = b) : Value.string a = .string b := by rw [h]
theorem val_intM {k : IntKind} {a b : Int} (h : a = b) : Value.int k a = .int k b := by rw [h]
theorem ret_strM {a b : ByteArray} (h : a = b) : Ending.returned (.string a) = .returned (.string b) := by rw [h]
def mtext (k : Nat) : List UInt8 := 109 :: decDigits k
end Go.Proofs.YtpinockfakndlaaGreat
