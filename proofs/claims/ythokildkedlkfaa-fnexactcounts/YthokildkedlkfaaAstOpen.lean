/-
  Expressions and statements that came in, opened into trees.
-/
import Derived.Test.YthokildkedlkfaaAstMem
import Derived.ProofKit
import Derived.OpenShut
import Derived.ShutString
import Derived.ChangeOld
import Derived.Deep.Slices
namespace Go.Proofs.Ythokildkedlkfaa
open Go.ChangeShapes Go.WideShapes Go.ChangeAt Go.RowKit
set_option linter.unusedSimpArgs false
set_option linter.unusedVariables false

theorem cE : Try.prog.cellsOf 50 = 4 := by kernel_rfl
theorem cS : Try.prog.cellsOf 52 = 19 := by kernel_rfl
theorem cI : Try.prog.cellsOf 3 = 1 := by kernel_rfl
theorem cT : Try.prog.cellsOf 9 = 1 := by kernel_rfl
theorem cEs : Try.prog.cellsOf 48 = 1 := by kernel_rfl
theorem cSs : Try.prog.cellsOf 43 = 1 := by kernel_rfl
theorem part_get {cs xs : List Value} {o n : Nat} (h : (cs.drop o).take n = xs) : ∀ j u, xs[j]? = some u → cs[o + j]? = some u := by
  intro j u hj
  rw [← h, List.getElem?_take] at hj
  split at hj
  · rw [List.getElem?_drop] at hj; exact hj
  · cases hj
theorem build_exps {W : World} {b o len : Nat} (each : ∀ i, i < len → ∃ x : X, xok x ∧ XC W 0 x b (o + i * 4)) : ∀ d, d ≤ len → ∃ R : EF, elen R = d ∧ eok R ∧ EIn W 0 R b (o + (len - d) * 4)
  | 0, _ => ⟨.nil, rfl, trivial, trivial⟩
  | d + 1, hd => by
    obtain ⟨R, h1, h2, h3⟩ := build_exps each d (by omega)
    obtain ⟨x, k, hx⟩ := each (len - (d + 1)) (by omega)
    refine ⟨.node 0 0 x.h x.l R, by simp only [elen]; omega, ⟨k.1, k.2.1, k.2.2, h2⟩, EIn_node.2 ⟨hx, ?_⟩⟩
    rw [show o + (len - (d + 1)) * 4 + 4 = o + (len - d) * 4 by omega]; exact h3
theorem build_stmts {W : World} {b o len : Nat} (each : ∀ i, i < len → ∃ (h : SH) (l : SF), (h.s.size ≤ 9223372036854775807 ∧ xok h.x1 ∧ xok h.x2 ∧ xok h.x3 ∧ xok h.x4 ∧ slen l ≤ 9223372036854775807 ∧ sok l) ∧ SC W 0 h l b (o + i * 19)) : ∀ d, d ≤ len → ∃ R : SF, slen R = d ∧ sok R ∧ SIn W 0 R b (o + (len - d) * 19)
  | 0, _ => ⟨.nil, rfl, trivial, trivial⟩
  | d + 1, hd => by
    obtain ⟨R, h1, h2, h3⟩ := build_stmts each d (by omega)
    obtain ⟨h, l, ⟨k1, k2, k3, k4, k5, k6, k7⟩, hx⟩ := each (len - (d + 1)) (by omega)
    refine ⟨.node 0 0 h l R, by simp only [slen]; omega, ⟨k1, k2, k3, k4, k5, k6, k7, h2⟩, SIn_node.2 ⟨hx, ?_⟩⟩
    rw [show o + (len - (d + 1)) * 19 + 19 = o + (len - d) * 19 by omega]; exact h3
section
variable {H : Type} {enc : TypeId × Value → H} {W : World} {sp : Nat → Bool} {held : Bool}
set_option maxRecDepth 100000 in
theorem open_exp_of {fuel : Nat} {cs : List Value} {y : DataW H × List MemPlace}
    (ih : ∀ m, m < fuel → ∀ (cs : List Value) (x : DataW H × List MemPlace), DataW.trod enc Try.prog W 0 sp held m 48 cs = some x → ∃ (v : Value) (F : EF), cs = [v] ∧ eok F ∧ elen F ≤ 9223372036854775807 ∧ EV W 0 F v)
    (h : DataW.trod enc Try.prog W 0 sp held fuel 50 cs = some y) : ∃ (x : X) (v : Value), cs = xcells x v ∧ xok x ∧ EV W 0 x.l v := by
  obtain ⟨xs, m, hm, _, hlen, hxl, hf⟩ := DataW.trod_struct Try.underlying50 h
  rw [cE] at hlen
  match xs, hxl, cs, hlen with
  | [y0, y1, y2, y3], _, [v0, v1, v2, v3], _ =>
    have g0 := hf 0 _ rfl
    have g1 := hf 1 _ rfl
    have g2 := hf 2 _ rfl
    have g3 := hf 3 _ rfl
    simp [cI, cT, cEs] at g0 g1 g2 g3
    obtain ⟨k, e0, _, _⟩ := DataW.trod_int Try.underlying3 g0
    obtain ⟨n, e1, _, _⟩ := DataW.trod_int Try.underlying3 g1
    obtain ⟨s, e2, _, hs⟩ := DataW.trod_string Try.underlying9 g2
    obtain ⟨v, F, e3, k1, k2, k3⟩ := ih m (by omega) _ _ g3
    injection e0 with e0; injection e1 with e1; injection e2 with e2; injection e3 with e3
    subst e0; subst e1; subst e2; subst e3
    exact ⟨⟨⟨k, n, s⟩, F⟩, v3, rfl, ⟨by unfold maxLen at hs; show s.size ≤ _; omega, k2, k1⟩, k3⟩
theorem open_exps : ∀ (fuel : Nat) (cs : List Value) (x : DataW H × List MemPlace), DataW.trod enc Try.prog W 0 sp held fuel 48 cs = some x → ∃ (v : Value) (F : EF), cs = [v] ∧ eok F ∧ elen F ≤ 9223372036854775807 ∧ EV W 0 F v := by
  intro fuel
  induction fuel using Nat.strongRecOn with
  | _ fuel ih =>
    intro cs x h
    rcases DataW.trod_slice Try.underlying48 h with ⟨rfl, _⟩ | ⟨a, len, cap, elems, rest, n, hn, rfl, _, _, hl, hmx, hlen, hel, _, _⟩
    · exact ⟨_, .nil, rfl, trivial, by simp [elen], EV.nil _ _ _ _⟩
    · rw [cE] at hel
      have each : ∀ i, i < len → ∃ (cs' : List Value) (y : DataW H × List MemPlace), W.cells? 0 (a.add (i * 4)) 4 = some cs' ∧ DataW.trod enc Try.prog W 0 sp held n 50 cs' = some y := fun i hi => by
        have h1 := hel i hi
        rw [List.getElem?_eq_getElem (by omega), Option.bind_eq_some_iff] at h1
        obtain ⟨cs', h2, h3⟩ := h1
        exact ⟨cs', _, h2, h3⟩
      rcases Nat.eq_zero_or_pos len with h0 | h0
      · subst h0; exact ⟨_, .nil, rfl, trivial, by simp [elen], EV.nil _ _ _ _⟩
      · have each2 : ∀ i, i < len → ∃ (x : X) (v : Value), xok x ∧ EV W 0 x.l v ∧ ∀ j u, (xcells x v)[j]? = some u → W.cell? ((a.add (i * 4)).add j) = some u := fun i hi => by
          obtain ⟨cs', y, h1, h2⟩ := each i hi
          obtain ⟨_, hc, hcell⟩ := World.cells?_some h1
          obtain ⟨x, v, rfl, k1, k2⟩ := open_exp_of (fun m hm cs x h => ih m (by omega) cs x h) h2
          refine ⟨x, v, k1, k2, fun j u hj => ?_⟩
          have hj4 : j < 4 := by have := (List.getElem?_eq_some_iff.1 hj).1; simpa [xcells] using this
          rw [hcell j hj4]; exact hj
        obtain ⟨b, off, spot⟩ := a
        have hsp : spot = Option.none := by
          obtain ⟨x, v, _, _, hc⟩ := each2 0 h0
          have := World.cell?_spot (hc 0 _ rfl)
          simpa [Addr.add] using this
        subst hsp
        have e : ∀ i j, ((⟨b, off, Option.none⟩ : Addr).add i).add j = ⟨b, off + i + j, Option.none⟩ := fun i j => by rw [add_plain, add_plain]
        obtain ⟨R, r1, r2, r3⟩ := build_exps (W := W) (b := b) (o := off) (len := len) (fun i hi => by
          obtain ⟨x, v, k1, k2, hc⟩ := each2 i hi
          have c0 := hc 0 _ rfl; have c1 := hc 1 _ rfl; have c2 := hc 2 _ rfl; have c3 := hc 3 _ rfl
          rw [e] at c0 c1 c2 c3
          exact ⟨x, k1, c0, c1, c2, v, c3, k2⟩) len (Nat.le_refl _)
        rw [Nat.sub_self, Nat.zero_mul, Nat.add_zero] at r3
        refine ⟨_, R, rfl, r2, by unfold maxLen at hmx; omega, b, off, _, cap, by rw [r1], .inl rfl, Nat.zero_le _, r3⟩
theorem open_exp {fuel : Nat} {cs : List Value} {y : DataW H × List MemPlace} (h : DataW.trod enc Try.prog W 0 sp held fuel 50 cs = some y) : ∃ (x : X) (v : Value), cs = xcells x v ∧ xok x ∧ EV W 0 x.l v :=
  open_exp_of (fun m _ cs x h => open_exps m cs x h) h
set_option maxRecDepth 100000 in
theorem open_stmt_of {fuel : Nat} {cs : List Value} {y : DataW H × List MemPlace}
    (ih : ∀ m, m < fuel → ∀ (cs : List Value) (x : DataW H × List MemPlace), DataW.trod enc Try.prog W 0 sp held m 43 cs = some x → ∃ (v : Value) (F : SF), cs = [v] ∧ sok F ∧ slen F ≤ 9223372036854775807 ∧ SV W 0 F v)
    (h : DataW.trod enc Try.prog W 0 sp held fuel 52 cs = some y) : ∃ (h : SH) (l : SF) (v1 v2 v3 v4 v : Value), cs = scells h v1 v2 v3 v4 v ∧ (h.s.size ≤ 9223372036854775807 ∧ xok h.x1 ∧ xok h.x2 ∧ xok h.x3 ∧ xok h.x4 ∧ slen l ≤ 9223372036854775807 ∧ sok l) ∧ HV W 0 h v1 v2 v3 v4 ∧ SV W 0 l v := by
  obtain ⟨xs, m, hm, _, hlen, hxl, hf⟩ := DataW.trod_struct Try.underlying52 h
  rw [cS] at hlen
  match xs, hxl, cs, hlen with
  | [y0, y1, y2, y3, y4, y5, y6], _, [a0, a1, a2, a3, a4, a5, a6, a7, a8, a9, a10, a11, a12, a13, a14, a15, a16, a17, a18], _ =>
    have g0 := hf 0 _ rfl
    have g1 := hf 1 _ rfl
    have g2 := hf 2 _ rfl
    have g3 := hf 3 _ rfl
    have g4 := hf 4 _ rfl
    have g5 := hf 5 _ rfl
    have g6 := hf 6 _ rfl
    simp [cI, cT, cE, cSs] at g0 g1 g2 g3 g4 g5 g6
    obtain ⟨k, e0, _, _⟩ := DataW.trod_int Try.underlying3 g0
    obtain ⟨s, e1, _, hs⟩ := DataW.trod_string Try.underlying9 g1
    obtain ⟨x1, v1, e2, p1, q1⟩ := open_exp g2
    obtain ⟨x2, v2, e3, p2, q2⟩ := open_exp g3
    obtain ⟨x3, v3, e4, p3, q3⟩ := open_exp g4
    obtain ⟨x4, v4, e5, p4, q4⟩ := open_exp g5
    obtain ⟨v, F, e6, k1, k2, k3⟩ := ih m (by omega) _ _ g6
    refine ⟨⟨k, s, x1, x2, x3, x4⟩, F, v1, v2, v3, v4, v, ?_, ⟨by unfold maxLen at hs; show s.size ≤ _; omega, p1, p2, p3, p4, k2, k1⟩, ⟨q1, q2, q3, q4⟩, k3⟩
    show [a0] ++ ([a1] ++ ([a2, a3, a4, a5] ++ ([a6, a7, a8, a9] ++ ([a10, a11, a12, a13] ++ ([a14, a15, a16, a17] ++ [a18]))))) = _
    rw [e0, e1, e2, e3, e4, e5, e6]; rfl
theorem open_stmts : ∀ (fuel : Nat) (cs : List Value) (x : DataW H × List MemPlace), DataW.trod enc Try.prog W 0 sp held fuel 43 cs = some x → ∃ (v : Value) (F : SF), cs = [v] ∧ sok F ∧ slen F ≤ 9223372036854775807 ∧ SV W 0 F v := by
  intro fuel
  induction fuel using Nat.strongRecOn with
  | _ fuel ih =>
    intro cs x h
    rcases DataW.trod_slice Try.underlying43 h with ⟨rfl, _⟩ | ⟨a, len, cap, elems, rest, n, hn, rfl, _, _, hl, hmx, hlen, hel, _, _⟩
    · exact ⟨_, .nil, rfl, trivial, by simp [slen], SV.nil _ _ _ _⟩
    · rw [cS] at hel
      have each : ∀ i, i < len → ∃ (cs' : List Value) (y : DataW H × List MemPlace), W.cells? 0 (a.add (i * 19)) 19 = some cs' ∧ DataW.trod enc Try.prog W 0 sp held n 52 cs' = some y := fun i hi => by
        have h1 := hel i hi
        rw [List.getElem?_eq_getElem (by omega), Option.bind_eq_some_iff] at h1
        obtain ⟨cs', h2, h3⟩ := h1
        exact ⟨cs', _, h2, h3⟩
      rcases Nat.eq_zero_or_pos len with h0 | h0
      · subst h0; exact ⟨_, .nil, rfl, trivial, by simp [slen], SV.nil _ _ _ _⟩
      · have each2 : ∀ i, i < len → ∃ (h : SH) (l : SF) (v1 v2 v3 v4 v : Value), (h.s.size ≤ 9223372036854775807 ∧ xok h.x1 ∧ xok h.x2 ∧ xok h.x3 ∧ xok h.x4 ∧ slen l ≤ 9223372036854775807 ∧ sok l) ∧ HV W 0 h v1 v2 v3 v4 ∧ SV W 0 l v ∧ ∀ j u, (scells h v1 v2 v3 v4 v)[j]? = some u → W.cell? ((a.add (i * 19)).add j) = some u := fun i hi => by
          obtain ⟨cs', y, h1, h2⟩ := each i hi
          obtain ⟨_, hc, hcell⟩ := World.cells?_some h1
          obtain ⟨x, l, v1, v2, v3, v4, v, rfl, k1, k2, k3⟩ := open_stmt_of (fun m hm cs x h => ih m (by omega) cs x h) h2
          refine ⟨x, l, v1, v2, v3, v4, v, k1, k2, k3, fun j u hj => ?_⟩
          have hj4 : j < 19 := by have := (List.getElem?_eq_some_iff.1 hj).1; simpa [scells, xcells] using this
          rw [hcell j hj4]; exact hj
        obtain ⟨b, off, spot⟩ := a
        have hsp : spot = Option.none := by
          obtain ⟨x, l, v1, v2, v3, v4, v, _, _, _, hc⟩ := each2 0 h0
          have := World.cell?_spot (hc 0 _ rfl)
          simpa [Addr.add] using this
        subst hsp
        have e : ∀ i j, ((⟨b, off, Option.none⟩ : Addr).add i).add j = ⟨b, off + i + j, Option.none⟩ := fun i j => by rw [add_plain, add_plain]
        obtain ⟨R, r1, r2, r3⟩ := build_stmts (W := W) (b := b) (o := off) (len := len) (fun i hi => by
          obtain ⟨x, l, v1, v2, v3, v4, v, k1, k2, k3, hc⟩ := each2 i hi
          refine ⟨x, l, k1, ?_⟩
          have hr : SRow W 0 (.node 0 0 x l .nil) (scells x v1 v2 v3 v4 v) := SRow.one k2.e1 k2.e2 k2.e3 k2.e4 k3
          exact (SIn_node.1 (SRow.laid (g := b) (off + i * 19) hr (fun j u hj => by have := hc j u hj; rwa [e] at this))).1) len (Nat.le_refl _)
        rw [Nat.sub_self, Nat.zero_mul, Nat.add_zero] at r3
        refine ⟨_, R, rfl, r2, by unfold maxLen at hmx; omega, b, off, _, cap, by rw [r1], .inl rfl, Nat.zero_le _, r3⟩
theorem open_stmt {fuel : Nat} {cs : List Value} {y : DataW H × List MemPlace} (h : DataW.trod enc Try.prog W 0 sp held fuel 52 cs = some y) : ∃ (h : SH) (l : SF) (v1 v2 v3 v4 v : Value), cs = scells h v1 v2 v3 v4 v ∧ (h.s.size ≤ 9223372036854775807 ∧ xok h.x1 ∧ xok h.x2 ∧ xok h.x3 ∧ xok h.x4 ∧ slen l ≤ 9223372036854775807 ∧ sok l) ∧ HV W 0 h v1 v2 v3 v4 ∧ SV W 0 l v :=
  open_stmt_of (fun m _ cs x h => open_stmts m cs x h) h
end
end Go.Proofs.Ythokildkedlkfaa
