import Derived.Test.YtpinockfakndlaaGreatZp
import Derived.Test.YtpinockfakndlaaGreatP06ofFnEvals
import Derived.Test.YtpinockfakndlaaGreatP05ofFnEvals
import Derived.Test.YtpinockfakndlaaGreatProg
import Derived.Deep.RegionHeld
import Derived.WalkKit
namespace Go.Proofs.YtpinockfakndlaaGreat
open Go.RowKit Go.Lib
set_option linter.unusedSimpArgs false
set_option linter.unusedVariables false
theorem sizePg : (Tryz.prog.info? 27).map (·.size) = some 2 := by kernel_rfl
def NS : Value → Prop
  | .slice _ _ _ => False
  | _ => True
abbrev Kp (lo : Nat) (w w' : World) : Prop := ∀ (a : Addr) v, lo ≤ a.block → w.cell? a = some v → (3 ≤ a.off ∨ NS v) → w'.cell? a = some v
theorem EIn_spare {w w' : World} {lo lo' : Nat} (hlo : lo' ≤ lo) (hs : Kp lo w w') : ∀ (F : EF) (b o : Nat), lo ≤ b → EIn w lo F b o → EIn w' lo' F b o
  | .nil, _, _, _, _ => trivial
  | .node _ _ h l r, b, o, hb, ⟨⟨h0, h1, h2, v, h3, b', o', a', c', e1, e2, e3, h4⟩, h5⟩ =>
    ⟨⟨hs _ _ hb h0 (.inr trivial), hs _ _ hb h1 (.inr trivial), hs _ _ hb h2 (.inr trivial), v, hs _ _ hb h3 (.inl (Nat.le_add_left 3 o)), b', o', a', c', e1, e2, Nat.le_trans hlo e3, EIn_spare hlo hs l b' o' e3 h4⟩, EIn_spare hlo hs r b _ hb h5⟩
theorem EV.spare {w w' : World} {lo lo' : Nat} {F : EF} {v : Value} (hlo : lo' ≤ lo) (h : EV w lo F v) (hs : Kp lo w w') : EV w' lo' F v := by
  obtain ⟨b, o, a, c, h1, h2, h3, h4⟩ := h
  exact ⟨b, o, a, c, h1, h2, Nat.le_trans hlo h3, EIn_spare hlo hs F b o h3 h4⟩
theorem XC.spare {w w' : World} {lo lo' : Nat} {x : X} {b o : Nat} (hlo : lo' ≤ lo) (hb : lo ≤ b) (h : XC w lo x b o) (hs : Kp lo w w') : XC w' lo' x b o := by
  obtain ⟨h0, h1, h2, v, h3, h4⟩ := h
  exact ⟨hs _ _ hb h0 (.inr trivial), hs _ _ hb h1 (.inr trivial), hs _ _ hb h2 (.inr trivial), v, hs _ _ hb h3 (.inl (Nat.le_add_left 3 o)), h4.spare hlo hs⟩
theorem SIn_spare {w w' : World} {lo lo' : Nat} (hlo : lo' ≤ lo) (hs : Kp lo w w') : ∀ (F : SF) (b o : Nat), lo ≤ b → SIn w lo F b o → SIn w' lo' F b o
  | .nil, _, _, _, _ => trivial
  | .node _ _ h l r, b, o, hb, ⟨⟨h0, h1, h2, h3, h4, h5, v, h6, b', o', a', c', e1, e2, e3, h7⟩, h8⟩ =>
    ⟨⟨hs _ _ hb h0 (.inr trivial), hs _ _ hb h1 (.inr trivial), h2.spare hlo hb hs, h3.spare hlo hb hs, h4.spare hlo hb hs, h5.spare hlo hb hs, v, hs _ _ hb h6 (.inl (Nat.le_trans (by omega) (Nat.le_add_left 18 o))), b', o', a', c', e1, e2, Nat.le_trans hlo e3, SIn_spare hlo hs l b' o' e3 h7⟩, SIn_spare hlo hs r b _ hb h8⟩
theorem SV.spare {w w' : World} {lo lo' : Nat} {F : SF} {v : Value} (hlo : lo' ≤ lo) (h : SV w lo F v) (hs : Kp lo w w') : SV w' lo' F v := by
  obtain ⟨b, o, a, c, h1, h2, h3, h4⟩ := h
  exact ⟨b, o, a, c, h1, h2, Nat.le_trans hlo h3, SIn_spare hlo hs F b o h3 h4⟩
theorem AV.spare {w w' : World} {lo lo' : Nat} {v : Value} {ts : List AR} (hlo : lo' ≤ lo) (h : AV w lo v ts) (hs : Kp lo w w') (hz : w.heap.size ≤ w'.heap.size) : AV w' lo' v ts := by
  obtain ⟨ao, cap, hv, h⟩ := h
  refine ⟨ao, cap, hv, ?_⟩
  rcases h with h | ⟨g, off, h1, h0, h2, h3⟩
  · exact .inl h
  · exact .inr ⟨g, off, h1, Nat.le_trans hlo h0, Nat.lt_of_lt_of_le h2 hz, fun i t hi => ⟨hs _ _ h0 (h3 i t hi).1 (.inr trivial), hs _ _ h0 (h3 i t hi).2 (.inr trivial)⟩⟩
theorem AV.wr {b lo : Nat} {w w' : World} {v : Value} {ts : List AR} (h : AV w lo v ts) (hw : Wr b w w') (hlo : b + 1 ≤ lo) : AV w' lo v ts := h.same (Nat.le_refl _) (fun a v hl hc => hw.keeps a v (by omega) hc) hw.size
theorem SV.wrA {b lo : Nat} {w w' : World} {F : SF} {v : Value} (h : SV w lo F v) (hw : Wr b w w') (hlo : b + 1 ≤ lo) : SV w' lo F v := h.same (Nat.le_refl _) (fun a v hl hc => hw.keeps a v (by omega) hc)
structure PvS (B : Nat) (a : Option Addr) (len cap b : Nat) (w : World) (N n : Nat) (va vb : Value) (w2 : World) : Prop where
  rg : w2.rangeAt n 0 [va, vb]
  th : w2.there n 0 2
  tN : w2.there N 0 2
  dw : Dw B a len cap b w2
  wr : Wr b w w2
  hN : w.heap.size = N
  hb : b < N
  hn : N + 2 ≤ n
section
variable {B : Nat} {a : Option Addr} {len cap b : Nat} {w : World} {N n : Nat} {va vb : Value} {w2 : World}
theorem PvS.step {w' : World} (s : PvS B a len cap b w N n va vb w2) (hw : Wr b w2 w') (d : Dw B a len cap b w') : PvS B a len cap b w N n va vb w' :=
  ⟨range_wr s.rg hw (by have := s.hb; have := s.hn; omega), there_wr s.th hw (by have := s.hb; have := s.hn; omega), there_wr s.tN hw (by have := s.hb; omega), d, s.wr.trans hw, s.hN, s.hb, s.hn⟩
theorem PvS.later {w' : World} (s : PvS B a len cap b w N n va vb w2) (hb : Below w2.heap.size w2 w') : PvS B a len cap b w N n va vb w' := s.step (.of_below hb) (s.dw.later hb)
theorem PvS.c0 (s : PvS B a len cap b w N n va vb w2) : w2.cell? ⟨n, 0, Option.none⟩ = some va ∧ w2.frozen? ⟨n, 0, Option.none⟩ = false := ⟨s.rg 0 _ rfl, by have := (s.th 0 (by omega)).2; simpa using this⟩
theorem PvS.c1 (s : PvS B a len cap b w N n va vb w2) : w2.cell? ⟨n, 1, Option.none⟩ = some vb ∧ w2.frozen? ⟨n, 1, Option.none⟩ = false := ⟨s.rg 1 _ rfl, by have := (s.th 1 (by omega)).2; simpa using this⟩
theorem kp_set {w : World} {n i : Nat} {u v : Value} (lo : Nat) (hi : i < 3) (hc : w.cell? ⟨n, i, Option.none⟩ = some v) (hv : ¬ NS v) : Kp lo w (w.setCell ⟨n, i, Option.none⟩ u) := fun a z _ hz hk => by
  rw [World.cell?_setCell_other _ _ _ _ (fun e => by
    subst e
    rw [hc] at hz
    injection hz with hz
    subst hz
    rcases hk with hk | hk
    · simp only [] at hk; omega
    · exact hv hk)]
  exact hz
theorem PvS.sets (s : PvS B a len cap b w N n va vb w2) (i : Nat) (u : Value) : Below n w2 (w2.setCell ⟨n, i, Option.none⟩ u) := by rw [show w2.setCell ⟨n, i, Option.none⟩ u = w2.setCells n i [u] from rfl]; exact below_sets _ _ (Below.refl _ _) (Nat.le_refl _)
theorem PvS.mid (s : PvS B a len cap b w N n va vb w2) {i : Nat} {u : Value} {xs : List Value} (hx : (w2.setCell ⟨n, i, Option.none⟩ u).rangeAt n 0 xs) {ua ub : Value} (e : xs = [ua, ub]) : PvS B a len cap b w N n ua ub (w2.setCell ⟨n, i, Option.none⟩ u) := by
  have hB := s.sets i u
  have h1 := s.hb; have h2 := s.hn; have h3 := s.dw.hB; have h4 := s.hN
  have hsz : (w2.setCell ⟨n, i, Option.none⟩ u).heap.size = w2.heap.size := by rw [show w2.setCell ⟨n, i, Option.none⟩ u = w2.setCells n i [u] from rfl, size_sets]
  subst e
  refine ⟨hx, World.there_setCells s.th n i [u], World.there_setCells s.tN n i [u], ⟨s.dw.hlen, s.dw.hB, s.dw.hC.later (hB.mono (by omega)), s.dw.cur.later (hB.block b (by omega))⟩, ?_, s.hN, s.hb, s.hn⟩
  exact ⟨hB.os.trans s.wr.os, hB.tape.trans s.wr.tape, hB.output.trans s.wr.output, by rw [hsz]; exact s.wr.size, fun k hk hne => (hB.block k (by omega)).trans (s.wr.block k hk hne)⟩
theorem PvS.setA (s : PvS B a len cap b w N n va vb w2) (u : Value) : PvS B a len cap b w N n u vb (w2.setCell ⟨n, 0, Option.none⟩ u) :=
  s.mid (xs := [u, vb]) (fun j z hj => by
    match j, hj with
    | 0, hj => cases hj; exact World.cell?_setCell_same _ _ _ s.c0.1
    | 1, hj => cases hj; rw [World.cell?_setCell_other _ _ _ _ (by simp)]; exact s.c1.1
    | j + 2, hj => simp at hj) rfl
theorem PvS.setB (s : PvS B a len cap b w N n va vb w2) (u : Value) : PvS B a len cap b w N n va u (w2.setCell ⟨n, 1, Option.none⟩ u) :=
  s.mid (xs := [va, u]) (fun j z hj => by
    match j, hj with
    | 0, hj => cases hj; rw [World.cell?_setCell_other _ _ _ _ (by simp)]; exact s.c0.1
    | 1, hj => cases hj; exact World.cell?_setCell_same _ _ _ s.c1.1
    | j + 2, hj => simp at hj) rfl
theorem PvS.grow {w6 : World} {r : Option Nat} (s : PvS B a len cap b w N n va vb w2) (o : Obj) (hg : (w2.alloc o).grownBy w6 r) (hne : r ≠ some n) (hlo : ∀ k, r = some k → N + 1 ≤ k) : PvS B a len cap b w N n va vb w6 := by
  have h1 := s.hb; have h2 := s.hn; have h3 := s.dw.hB; have h4 := s.hN; have h5 := s.wr.size
  have ba := aB w2 o
  have hBel : Below (N + 1) w2 w6 := (ba.mono (by have := lt_of_cellA (s.rg 0 _ rfl); simp only [] at this; omega)).grown hg (by have := lt_of_cellA (s.rg 0 _ rfl); simp only [] at this; simp; omega) hlo
  refine ⟨range_grown (rangeAt_later s.rg ba) hg hne, there_grown (there_later s.th ba) hg hne, there_grown (there_later s.tN ba) hg (fun e => by have := hlo _ e; omega), ⟨s.dw.hlen, s.dw.hB, s.dw.hC.later (hBel.mono (by omega)), s.dw.cur.later (hBel.block b (by omega))⟩, ?_, s.hN, s.hb, s.hn⟩
  exact ⟨hBel.os.trans s.wr.os, hBel.tape.trans s.wr.tape, hBel.output.trans s.wr.output, Nat.le_trans s.wr.size hBel.size, fun k hk hne => (hBel.block k (by omega)).trans (s.wr.block k hk hne)⟩
def DrawnP (B : Nat) (a : Option Addr) (len cap b lim : Nat) (w : World) (e : Ending) (w' : World) : Prop :=
  ∃ (ts : List AR) (F : SF) (va vb : Value), e = .returned (.agg #[va, vb]) ∧ AV w' w.heap.size va ts ∧ SV w' w.heap.size F vb ∧ ts.length ≤ 3 ∧ (∀ t ∈ ts, t.s.size ≤ 3) ∧ ssize F ≤ lim ∧ Dw B a len cap b w' ∧ Wr b w w'
theorem PvS.close {W : World} {ts : List AR} {F : SF} {lim : Nat} (s : PvS B a len cap b w N n va vb w2) (hW : w2.setCells N 0 [va, vb] = W) (ha : AV w2 (N + 1) va ts) (hs : SV w2 (N + 1) F vb) (h3 : ts.length ≤ 3) (ht : ∀ t ∈ ts, t.s.size ≤ 3) (hl : ssize F ≤ lim) :
    DrawnP B a len cap b lim w (.returned (.agg #[va, vb])) W ∧ W.rangeAt N 0 [va, vb] := by
  have hB : Below N w2 W := by rw [← hW]; exact below_sets _ _ (Below.refl _ _) (Nat.le_refl _)
  have hk : Keeps (N + 1) w2 W := by rw [← hW]; exact Keeps.sets _ (by omega) _ _
  have h1 := s.hb; have h2 := s.hn; have h3' := s.dw.hB; have h4 := s.hN
  refine ⟨⟨ts, F, va, vb, rfl, ha.same (by omega) hk hB.size, hs.same (by omega) hk, h3, ht, hl, ⟨s.dw.hlen, s.dw.hB, s.dw.hC.later (hB.mono (by omega)), s.dw.cur.later (hB.block b (by omega))⟩, ?_⟩, by rw [← hW]; exact World.rangeAt_setCells_same _ _ _ _ s.tN⟩
  exact ⟨hB.os.trans s.wr.os, hB.tape.trans s.wr.tape, hB.output.trans s.wr.output, Nat.le_trans s.wr.size hB.size, fun k hk hne => (hB.block k (by omega)).trans (s.wr.block k hk hne)⟩
end
theorem keeps_grown {w w6 : World} {r : Option Nat} {lo : Nat} (hg : w.grownBy w6 r) (hlo : ∀ k, r = some k → k < lo) : Keeps lo w w6 := fun a v hl hc => by
  have e := hg.block a.block (lt_of_cellA hc) (fun e => by have := hlo _ e.symm; omega)
  simp only [World.cell?, e] at hc ⊢
  exact hc
theorem AV.own {w : World} {B g c : Nat} {ts : List AR} (h : w.ownsRow B 82 2 (.slice (some ⟨g, 0, Option.none⟩) ts.length c) ts.length (acells ts)) : AV w B (.slice (some ⟨g, 0, Option.none⟩) ts.length c) ts := by
  by_cases hn : ts = []
  · subst hn; exact ⟨_, c, rfl, .inl rfl⟩
  have hb := h.lt g rfl
  have hr : w.rangeAt g 0 (acells ts) := fun j v hj => by rw [Nat.zero_add]; exact own_cell h hj
  obtain ⟨ao, cap, e1, e2⟩ := AV.laid (c := c) hb.2 hr
  refine ⟨ao, cap, e1, ?_⟩
  rcases e2 with e2 | ⟨g', off, e3, _, e5, e6⟩
  · exact .inl e2
  · injection e1 with q1 q2 q3
    rw [e3] at q1
    injection q1 with q1
    injection q1 with q1 q4
    subst q1
    exact .inr ⟨g, off, e3, hb.1, e5, e6⟩
structure C0 (B : Nat) (a : Option Addr) (len cap b : Nat) (w : World) (N n : Nat) (F : SF) (va vb : Value) (w2 : World) : Prop where
  pv : PvS B a len cap b w N n va vb w2
  own : w2.ownsRow (N + 1) 82 2 va 2 (acells [⟨⟨#[97]⟩, 8⟩, ⟨⟨#[98]⟩, 6⟩])
  sv : SV w2 (N + 2) F vb
theorem C0.step {B : Nat} {a : Option Addr} {len cap b : Nat} {w : World} {N n : Nat} {F : SF} {va vb : Value} {w2 w' : World} (s : C0 B a len cap b w N n F va vb w2) (hw : Wr b w2 w') (d : Dw B a len cap b w') : C0 B a len cap b w N n F va vb w' :=
  ⟨s.pv.step hw d, own_wr s.own hw (by have := s.pv.hb; omega), s.sv.wrA hw (by have := s.pv.hb; omega)⟩
theorem C0.later {B : Nat} {a : Option Addr} {len cap b : Nat} {w : World} {N n : Nat} {F : SF} {va vb : Value} {w2 w' : World} (s : C0 B a len cap b w N n F va vb w2) (hb : Below w2.heap.size w2 w') : C0 B a len cap b w N n F va vb w' := s.step (.of_below hb) (s.pv.dw.later hb)
def StrL (b lb : Nat) (w : World) : Prop := b + 1 ≤ lb ∧ ∀ j, j < 4 → ∃ z : ByteArray, w.cell? ⟨lb, j, none⟩ = some (.string z) ∧ z.size ≤ 3
def IntL (b lb : Nat) (w : World) : Prop := b + 1 ≤ lb ∧ ∀ j, j < 4 → ∃ z : Int, w.cell? ⟨lb, j, none⟩ = some (.int .i64 z) ∧ 0 ≤ z ∧ z ≤ 17
theorem StrL.later {b lb : Nat} {w w' : World} (h : StrL b lb w) (hb : Below w.heap.size w w') : StrL b lb w' := ⟨h.1, fun j hj => by obtain ⟨z, h1, h2⟩ := h.2 j hj; exact ⟨z, keeps hb h1, h2⟩⟩
theorem IntL.later {b lb : Nat} {w w' : World} (h : IntL b lb w) (hb : Below w.heap.size w w') : IntL b lb w' := ⟨h.1, fun j hj => by obtain ⟨z, h1, h2⟩ := h.2 j hj; exact ⟨z, keeps hb h1, h2⟩⟩
theorem IntL.wr {b lb : Nat} {w w' : World} (h : IntL b lb w) (hw : Wr b w w') : IntL b lb w' := ⟨h.1, fun j hj => by obtain ⟨z, h1, h2⟩ := h.2 j hj; exact ⟨z, hw.keeps _ _ h.1 h1, h2⟩⟩
end Go.Proofs.YtpinockfakndlaaGreat
namespace Go.Proofs.YtpinockfakndlaaGreat
open Go.RowKit
set_option linter.unusedSimpArgs false
set_option linter.unusedVariables false
section
variable {P : Program} {ops : Array Oper} {Q : Exit → Act → World → Prop} {md : Region.Mode} {S : World → Prop} {i : Nat}
def freeOf (md : Region.Mode) (ops : Array Oper) (i j : Nat) : Bool :=
  match ops[j]? with
  | some o => o.after.all fun e => !(Region.binds md e && decide (e.on = i))
  | none => true
def wpAnyD (P : Program) (md : Region.Mode) (ops : Array Oper) (Q : Exit → Act → World → Prop) (S : World → Prop) (i : Nat) : Nat → Array Bool → Act → World → Prop
  | 0, listed, a, w => Region.ready md ops listed = [] ∧ Q .normal a w
  | fuel + 1, listed, a, w => (Region.ready md ops listed = [] → Q .normal a w) ∧ ∀ j ∈ Region.ready md ops listed, wpOp P ops Q j (fun a' w' => (freeOf md ops i j = true → S w') ∧ wpAnyD P md ops Q S i fuel (listed.setIfInBounds j true) a' w') a w
theorem wpAny_ofD : ∀ (fuel : Nat) (listed : Array Bool) (a : Act) (w : World), wpAnyD P md ops Q S i fuel listed a w → wpAny P md ops Q fuel listed a w
  | 0, _, _, _, h => h
  | fuel + 1, _, _, _, h => ⟨h.1, fun j hj => wpOp_mono (fun a' w' h' => wpAny_ofD fuel _ a' w' h'.2) (h.2 j hj)⟩
theorem freeOf_of {j : Nat} {oj : Oper} (hj : ops[j]? = some oj) (h : ∀ e ∈ oj.after, Region.binds md e = true → e.on ≠ i) : freeOf md ops i j = true := by
  unfold freeOf
  rw [hj]
  show (oj.after.all fun e => !(Region.binds md e && decide (e.on = i))) = true
  rw [Array.all_eq_true']
  intro e he
  cases hb : Region.binds md e with
  | false => rfl
  | true => have := h e he hb; simp [this]
theorem up_free {j : Nat} {oj : Oper} {listed : Array Bool} (hj : j ∈ Region.ready md ops listed) (hi : i ∈ Region.ready md ops listed) (ho : ops[j]? = some oj) : ∀ e ∈ oj.after, Region.binds md e = true → e.on ≠ i := by
  obtain ⟨_, o, ho', hw⟩ := mem_ready.1 hj
  obtain ⟨hni, _⟩ := mem_ready.1 hi
  rw [ho] at ho'
  cases ho'
  intro e he hb hei
  have hd := hw e he hb
  rw [hei] at hd
  by_cases hlt : i < listed.size
  · rw [Array.getD_eq_getD_getElem?, Array.getElem?_eq_getElem hlt, Option.getD_some] at hd hni
    rw [hd] at hni
    cases hni
  · rw [Array.getD_eq_getD_getElem?, Array.getElem?_eq_none (by omega)] at hd
    cases hd
def Aside (md : Region.Mode) (ops : Array Oper) (i : Nat) (oi : Oper) (listed : Array Bool) : Prop :=
  ∀ k ok, ops[k]? = some ok → k ≠ i → listed.getD k true = false → (∀ e ∈ ok.after, Region.binds md e = true → e.on ≠ i) → oi.apart ops ok = true
theorem Aside.more {oi : Oper} {listed : Array Bool} {j : Nat} (h : Aside md ops i oi listed) (hj : listed.getD j true = false) : Aside md ops i oi (listed.setIfInBounds j true) := fun k ok hk hki hu hno => by
  refine h k ok hk hki ?_ hno
  rcases Nat.decEq j k with hne | he
  · rwa [getD_set_ne true hne] at hu
  · rw [← he]; exact hj
theorem wpAny_until {oi : Oper} {v : Value} (hi : ops[i]? = some oi) (hsel : ∀ (j : Nat) (o : Oper) cs b, ops[j]? = some o → o.op ≠ .select cs b)
    (hQ : ∀ c a w, Q (.panic c) (a.put oi.dst v) w → Q (.panic c) a w) : ∀ (fuel : Nat) (listed : Array Bool) (a : Act) (w : World), Aside md ops i oi listed → i ∈ Region.ready md ops listed → YieldsIf P ops S oi v a → S w →
      wpAnyD P md ops Q S i fuel (listed.setIfInBounds i true) (a.put oi.dst v) w → wpAny P md ops Q (fuel + 1) listed a w
  | 0, listed, a, w, _, hr, hy, hS, H => by
    refine ⟨fun h => (by rw [h] at hr; cases hr), fun j hj => ?_⟩
    rcases Nat.decEq j i with hne | he
    · have h1 := ready_mono hj hne
      rw [H.1] at h1
      cases h1
    · rw [he]; exact hy.wpOp hi hS H
  | fuel + 1, listed, a, w, hA, hr, hy, hS, H => by
    refine ⟨fun h => (by rw [h] at hr; cases hr), fun j hj => ?_⟩
    rcases Nat.decEq j i with hne | he
    · obtain ⟨hju, oj, hoj, _⟩ := mem_ready.1 hj
      have hno := up_free hj hr hoj
      refine wpOp_mono (fun a' w' h => wpAny_until hi hsel hQ fuel (listed.setIfInBounds j true) a' w' (hA.more hju) (ready_mono hr (Ne.symm hne)) h.1 (h.2.1 (freeOf_of hoj hno)) ?_) (wpOp_putIf hoj (hA j oj hoj hne hju hno) (fun cs b => hsel i oi cs b hi) (fun cs b => hsel j oj cs b hoj) hQ hy (H.2 j (ready_mono hj hne)))
      rw [Array.setIfInBounds_comm _ _ hne]
      exact h.2.2
    · rw [he]; exact hy.wpOp hi hS (wpAny_ofD _ _ _ _ H)
theorem wpAny_till {oi : Oper} {v : Value} {fuel : Nat} {listed : Array Bool} {a : Act} {w : World} (S : World → Prop) (hi : ops[i]? = some oi)
    (hs : Region.noSelect ops = true) (hf : Region.free md ops listed i = true) (hr : (Region.ready md ops listed).contains i = true)
    (hQ : ∀ c a w, Q (.panic c) (a.put oi.dst v) w → Q (.panic c) a w) (hy : YieldsIf P ops S oi v a) (hS : S w)
    (h : S w → wpAnyD P md ops Q S i fuel (listed.setIfInBounds i true) (a.put oi.dst v) w) : wpAny P md ops Q (fuel + 1) listed a w :=
  wpAny_until hi (Region.noSelect_spec hs) hQ fuel listed a w (Region.free_spec hi hf) (by simpa using hr) hy hS (h hS)
def AllReadyD (P : Program) (md : Region.Mode) (ops : Array Oper) (Q : Exit → Act → World → Prop) (S : World → Prop) (i : Nat) (fuel : Nat) (listed : Array Bool) (a : Act) (w : World) (rs : List Nat) : Prop :=
  ∀ j ∈ rs, wpOp P ops Q j (fun a' w' => (freeOf md ops i j = true → S w') ∧ wpAnyD P md ops Q S i fuel (listed.setIfInBounds j true) a' w') a w
theorem AllReadyD.nil {fuel : Nat} {listed : Array Bool} {a : Act} {w : World} : AllReadyD P md ops Q S i fuel listed a w [] := fun _ h => by cases h
theorem AllReadyD.cons {fuel : Nat} {listed : Array Bool} {a : Act} {w : World} {j : Nat} {o : Oper} {rs : List Nat} (ho : ops[j]? = some o)
    (h : ∀ K' : Act → World → Prop, Shut (∀ a w, (freeOf md ops i j = true → S w) → wpAnyD P md ops Q S i fuel (listed.setIfInBounds j true) a w → K' a w) → if Region.wanted o (yielded ops a.tmps) = true then Oper.wp P o a w K' Q else K' (a.put o.dst undef) w)
    (hs : AllReadyD P md ops Q S i fuel listed a w rs) : AllReadyD P md ops Q S i fuel listed a w (j :: rs) := fun k hk => by
  rcases List.mem_cons.1 hk with rfl | hk
  · exact wpOp_step ho (fun K' hK => h K' (fun a w hS hW => hK a w ⟨hS, hW⟩))
  · exact hs k hk
theorem wpAnyD_ready {rs : List Nat} {fuel : Nat} {listed : Array Bool} {a : Act} {w : World} (hr : Region.ready md ops listed = rs) (hne : rs ≠ [])
    (h : AllReadyD P md ops Q S i fuel listed a w rs) : wpAnyD P md ops Q S i (fuel + 1) listed a w := ⟨fun h0 => absurd (hr ▸ h0) hne, hr ▸ h⟩
theorem wpAnyD_done {listed : Array Bool} {a : Act} {w : World} (hr : Region.ready md ops listed = []) (h : Q .normal a w) :
    ∀ fuel, wpAnyD P md ops Q S i fuel listed a w
  | 0 => ⟨hr, h⟩
  | _ + 1 => ⟨fun _ => h, by rw [hr]; simp⟩
theorem region_drew {id : Nat} {a : Act} {w : World} (hm : P.follows .mixedOrders = true) (h : ∀ wd, wd = w.drew → wpAny P .any ops Q ops.size (Array.replicate ops.size false) a wd) : (Code.region id ops true).wp P Q a w := wp_region_any hm (h _ rfl)
theorem waitsN {j : Nat} (h : freeOf md ops i j = false) : ¬ freeOf md ops i j = true := fun e => by rw [h] at e; cases e
end
end Go.Proofs.YtpinockfakndlaaGreat
namespace Go.Proofs.YtpinockfakndlaaGreat
open Go.RowKit Go.Lib
set_option linter.unusedSimpArgs false
set_option linter.unusedVariables false
theorem SVx.of_old {n lo b : Nat} {w2 w : World} {F : SF} {v : Value} (h : SV w2 lo F v) (hw : Wr b w2 w) (hb : b + 1 ≤ lo) (hn : w2.heap.size ≤ n) : SVx n w lo F v := fun W hW =>
  h.same (Nat.le_refl _) fun a u hl hc => hW a u hl (by have := lt_of_cellA hc; omega) (hw.keeps a u (by omega) hc)
theorem VarS.start2 {B : Nat} {a : Option Addr} {len cap b : Nat} {w0 w1 W : World} {N : Nat} {t : TypeId} {h : SH} {l : SF} {v1 v2 v3 v4 v : Value} (hN : w0.heap.size = N) (hb : b < N) (d : Dw B a len cap b w1) (hw : Wr b w0 w1) (hth : w1.there N 0 19) (he : HV w1 (N + 1) h v1 v2 v3 v4) (hs : SV w1 (N + 1) l v)
    (hW : (w1.alloc (.cells zero19 t)).setCells w1.heap.size 0 (scells h v1 v2 v3 v4 v) = W) : VarS B a len cap b w0 N w1.heap.size h l v1 v2 v3 v4 v W ∧ Below w1.heap.size w1 W := by
  have hn := newblkS h v1 v2 v3 v4 v hW
  have hwr : Wr b w1 W := .of_below hn.2
  have hle : b + 1 ≤ N + 1 := by omega
  exact ⟨⟨hn.1, by rw [← hW]; exact World.there_setCells (newthere w1 t) _ _ _, ⟨EVx.of_old he.e1 hwr hle (Nat.le_refl _), EVx.of_old he.e2 hwr hle (Nat.le_refl _), EVx.of_old he.e3 hwr hle (Nat.le_refl _), EVx.of_old he.e4 hwr hle (Nat.le_refl _)⟩, SVx.of_old hs hwr hle (Nat.le_refl _), d.later hn.2, hw.trans hwr, there_later hth hn.2, hN, by have := lt_there19 hth; omega, hb⟩, hn.2⟩
theorem SRx.to {g lo : Nat} {w W : World} (f1 : ∀ (F : EF) (v : Value), EVx g w lo F v → EV W lo F v) (f2 : ∀ (F : SF) (v : Value), SVx g w lo F v → SV W lo F v) : ∀ {F : SF} {xs : List Value}, SRx g w lo F xs → SRow W lo F xs
  | .nil, _, h => h
  | .node _ _ _ l r, _, ⟨v1, v2, v3, v4, v, ys, e, h1, h2, h⟩ => ⟨v1, v2, v3, v4, v, ys, e, f1 _ _ h1.e1, f1 _ _ h1.e2, f1 _ _ h1.e3, f1 _ _ h1.e4, f2 l v h2, SRx.to f1 f2 h⟩
theorem SVx.more {N n g c m p q : Nat} {w1 w3 w6 : World} {l l' : SF} {h' : SH} {v u1 u2 u3 u4 u : Value} {xs : List Value} (row : SRx (gOf v) w1 (N + 1) l xs) (hn : w1.heap.size = n)
    (k16 : ∀ (a : Addr) z, N + 1 ≤ a.block → a.block ≠ gOf v → w1.cell? a = some z → w6.cell? a = some z) (he : HV w3 m h' u1 u2 u3 u4) (hs : SV w3 m l' u) (hm : n < m) (hNn : N < n)
    (k36 : ∀ (a : Addr) z, m ≤ a.block → w3.cell? a = some z → w6.cell? a = some z) (hown : w6.ownsRow (N + 1) 98 19 (.slice (some ⟨g, 0, Option.none⟩) (slen l + 1) c) (slen l + 1) (xs ++ scells h' u1 u2 u3 u4 u)) (hgn : g ≠ n) (hgN : N + 1 ≤ g) :
    SVx n w6 (N + 1) (sapp l (.node p q h' l' .nil)) (.slice (some ⟨g, 0, Option.none⟩) (slen l + 1) c) := fun W hW => by
  have f1 : ∀ (F : EF) (z : Value), EVx (gOf v) w1 (N + 1) F z → EV W (N + 1) F z := fun F z e => e W fun a y h1 h2 hc => hW a y h1 (by have := lt_of_cellA hc; omega) (k16 a y h1 h2 hc)
  have f2 : ∀ (F : SF) (z : Value), SVx (gOf v) w1 (N + 1) F z → SV W (N + 1) F z := fun F z e => e W fun a y h1 h2 hc => hW a y h1 (by have := lt_of_cellA hc; omega) (k16 a y h1 h2 hc)
  have k3W : ∀ (a : Addr) z, m ≤ a.block → w3.cell? a = some z → W.cell? a = some z := fun a z h1 hc => hW a z (by omega) (by omega) (k36 a z h1 hc)
  have hml : N + 1 ≤ m := by omega
  have r2 : SRow W (N + 1) (.node p q h' l' .nil) (scells h' u1 u2 u3 u4 u) := SRow.one (he.e1.same hml k3W) (he.e2.same hml k3W) (he.e3.same hml k3W) (he.e4.same hml k3W) (hs.same hml k3W)
  refine ⟨g, 0, _, c, by rw [slen_app]; rfl, .inl rfl, hgN, SRow.laid 0 ((SRx.to f1 f2 row).app r2) fun j z hj => ?_⟩
  have hc := hown.cells (g := g) rfl j z hj
  rw [Go.WideShapes.add_plain] at hc
  exact hW _ _ hgN hgn hc
theorem there_blk {w w' : World} {n o m : Nat} (h : w.there n o m) (e : w'.heap[n]? = w.heap[n]?) : w'.there n o m := fun j hj => by
  obtain ⟨h1, h2⟩ := h j hj
  refine ⟨by rw [World.cell?_of_block (a := ⟨n, o + j, Option.none⟩) e]; exact h1, ?_⟩
  rw [← h2]
  unfold World.frozen?
  simp only [e]
theorem range_blk {w w' : World} {n o : Nat} {cs : List Value} (h : w.rangeAt n o cs) (e : w'.heap[n]? = w.heap[n]?) : w'.rangeAt n o cs := fun j v hv => by
  rw [World.cell?_of_block (a := ⟨n, o + j, Option.none⟩) e]; exact h j v hv
section
variable {B : Nat} {a : Option Addr} {len cap b : Nat} {w0 : World} {N n : Nat} {h : SH} {l : SF} {v1 v2 v3 v4 v : Value} {w : World}
theorem VarS.body {P : SF} {u : Value} (rg : w.rangeAt n 0 (scells h v1 v2 v3 v4 v)) (th : w.there n 0 19) (ex : HVx n w (N + 1) h v1 v2 v3 v4) (sx : SVx n w (N + 1) P u) (dw : Dw B a len cap b w) (wr : Wr b w0 w) (thN : w.there N 0 19) (hN : w0.heap.size = N) (hn : N < n) (hb : b < N) :
    VarS B a len cap b w0 N n h P v1 v2 v3 v4 u (w.setCell ⟨n, 18, Option.none⟩ u) := by
  have e : w.setCell ⟨n, 18, Option.none⟩ u = w.setCells n 18 [u] := rfl
  rw [e]
  have hB : Below n w (w.setCells n 18 [u]) := below_sets _ _ (Below.refl _ _) (Nat.le_refl _)
  have hsz : w.heap.size ≤ (w.setCells n 18 [u]).heap.size := by rw [size_sets]; exact Nat.le_refl _
  refine ⟨?_, World.there_setCells th _ _ _, ex.map (fun _ _ e => e.sets _ _), sx.sets _ _, ⟨dw.hlen, dw.hB, dw.hC.later (hB.mono (by have := dw.hB; omega)), dw.cur.later (hB.block b (by omega))⟩, ⟨hB.os.trans wr.os, hB.tape.trans wr.tape, hB.output.trans wr.output, Nat.le_trans wr.size hsz, fun k hk hne => (hB.block k (by omega)).trans (wr.block k hk hne)⟩, World.there_setCells thN _ _ _, hN, hn, hb⟩
  have hth : w.there n 18 1 := by have := there_part th 18 1 (by omega); rwa [Nat.zero_add] at this
  intro j z hj
  rw [Nat.zero_add]
  by_cases h1 : j < 18
  · rw [World.cell?_setCells_out n [u] 18 w ⟨n, j, Option.none⟩ (fun _ _ => by simp only []; omega)]
    have := rg j z (by
      have e1 : scells h v1 v2 v3 v4 u = (scells h v1 v2 v3 v4 v).take 18 ++ [u] := rfl
      rw [e1, List.getElem?_append_left (by simp [scells, xC]; omega), List.getElem?_take_of_lt h1] at hj
      exact hj)
    rwa [Nat.zero_add] at this
  · obtain ⟨hl, hz⟩ := List.getElem?_eq_some_iff.1 hj
    have hj18 : j = 18 := by simp [scells, xC] at hl; omega
    subst hj18
    have : z = u := by simpa [scells, xC] using hz.symm
    subst this
    exact World.rangeAt_setCells_same w n 18 [z] hth 0 z rfl
theorem VarS.more {w1 w3 w6 : World} {m g c p q : Nat} {l' : SF} {h' : SH} {u1 u2 u3 u4 u : Value} {xs : List Value} {o : Obj} (s : VarS B a len cap b w0 N n h l v1 v2 v3 v4 v w3) (hn1 : w1.heap.size = n) (hx : HVx (gOf v) w1 (N + 1) h v1 v2 v3 v4) (own : w1.ownsRow (N + 1) 98 19 v (slen l) xs) (row : SRx (gOf v) w1 (N + 1) l xs)
    (k13 : ∀ (a : Addr) z, N + 1 ≤ a.block → w1.cell? a = some z → w3.cell? a = some z) (he : HV w3 m h' u1 u2 u3 u4) (hs : SV w3 m l' u) (hm : n < m)
    (hown : w6.ownsRow (N + 1) 98 19 (.slice (some ⟨g, 0, Option.none⟩) (slen l + 1) c) (slen l + 1) (xs ++ scells h' u1 u2 u3 u4 u)) (hg : (w3.alloc o).grownBy w6 v.ownBlock) (hat : v.ownBlock = some g ∨ w3.heap.size + 1 ≤ g) :
    VarS B a len cap b w0 N n h (sapp l (.node p q h' l' .nil)) v1 v2 v3 v4 (.slice (some ⟨g, 0, Option.none⟩) (slen l + 1) c) (w6.setCell ⟨n, 18, Option.none⟩ (.slice (some ⟨g, 0, Option.none⟩) (slen l + 1) c)) := by
  have hlt := s.lt
  have hN0 : 0 < N := by have := s.hb; omega
  have hgo : ∀ k, v.ownBlock = some k → gOf v = k ∧ N + 1 ≤ k ∧ k < n := fun k hk => ⟨by unfold gOf; rw [hk]; rfl, by rw [← hn1]; exact own.lt k hk⟩
  have hb1 := aB w3 o
  have blk : ∀ k, k < w3.heap.size → k ≠ gOf v → w6.heap[k]? = w3.heap[k]? := fun k h1 h2 => (hg.block k (by simp; omega) (fun e => h2 (hgo k e.symm).1.symm)).trans (hb1.block k h1)
  have hgv : gOf v < n := by
    cases e : v.ownBlock with
    | none => unfold gOf; rw [e]; show 0 < n; have := s.hn; omega
    | some k => have := hgo k e; omega
  have c36 : ∀ (a : Addr) z, a.block ≠ gOf v → w3.cell? a = some z → w6.cell? a = some z := fun a z h1 hc => by rw [World.cell?_of_block (blk a.block (lt_of_cellA hc) h1)]; exact hc
  have hgN : N + 1 ≤ g ∧ g ≠ n := by
    rcases hat with e | e
    · have := hgo g e; omega
    · have := s.hn; omega
  have hgvN : gOf v = 0 ∨ N + 1 ≤ gOf v := by
    cases e : v.ownBlock with
    | none => left; unfold gOf; rw [e]; rfl
    | some k => right; have := hgo k e; omega
  have k16 : ∀ (a : Addr) z, N + 1 ≤ a.block → a.block ≠ gOf v → w1.cell? a = some z → w6.cell? a = some z := fun a z h1 h2 hc => c36 a z h2 (k13 a z h1 hc)
  have hBel : Below (N + 1) w3 w6 := (hb1.mono (by have := s.hn; omega)).grown hg (by have := s.hn; simp; omega) (fun k hk => (hgo k hk).2.1)
  refine VarS.body (range_blk s.rg (blk n hlt (by omega))) (there_blk s.th (blk n hlt (by omega))) ?_ ?_ ⟨s.dw.hlen, s.dw.hB, s.dw.hC.later (hBel.mono (by have := s.dw.hB; have := s.hb; omega)), s.dw.cur.later (hBel.block b (by have := s.hb; omega))⟩ ?_ (there_blk s.thN (blk N (by have := s.hn; omega) (by omega))) s.hN s.hn s.hb
  · exact hx.map fun F z e => fun W hW => e W fun a y h1 h2 hc => hW a y h1 (by have := lt_of_cellA hc; omega) (k16 a y h1 h2 hc)
  · exact SVx.more row hn1 k16 he hs hm s.hn (fun a z h1 hc => c36 a z (by omega) hc) hown hgN.2 hgN.1
  · exact ⟨hBel.os.trans s.wr.os, hBel.tape.trans s.wr.tape, hBel.output.trans s.wr.output, Nat.le_trans s.wr.size hBel.size, fun k hk hne => (hBel.block k (by have := s.hN; omega)).trans (s.wr.block k hk hne)⟩
theorem VarS.more18 {w1 w3 w6 : World} {xs : List Value} {o : Obj} (s : VarS B a len cap b w0 N n h l v1 v2 v3 v4 v w3) (hn1 : w1.heap.size = n) (own : w1.ownsRow (N + 1) 98 19 v (slen l) xs) (hg : (w3.alloc o).grownBy w6 v.ownBlock) :
    w6.cell? ⟨n, 18, Option.none⟩ = some v ∧ w6.frozen? ⟨n, 18, Option.none⟩ = false := by
  have hlt := s.lt
  have e : w6.heap[n]? = w3.heap[n]? := (hg.block n (by simp; omega) (fun e => by have := (own.lt n e.symm).2; omega)).trans ((aB w3 o).block n hlt)
  have r := range_blk s.rg e 18 _ rfl
  have t := (there_blk s.th e 18 (by omega)).2
  simp only [Nat.zero_add] at r t
  exact ⟨r, t⟩
theorem VarS.wrap {w5 : World} {h' : SH} {u1 u2 u3 u4 : Value} {g p q : Nat} (s : VarS B a len cap b w0 N n h l v1 v2 v3 v4 v w) (hb5 : Below w.heap.size w w5) (hg : w.heap.size ≤ g) (rg : w5.rangeAt g 0 (scells h v1 v2 v3 v4 v)) (he : HVx n w5 (N + 1) h' u1 u2 u3 u4) :
    VarS B a len cap b w0 N n h' (.node p q h l .nil) u1 u2 u3 u4 (.slice (some ⟨g, 0, Option.none⟩) 1 1) (w5.setCells n 0 (scells h' u1 u2 u3 u4 (.slice (some ⟨g, 0, Option.none⟩) 1 1))) := by
  have s5 := s.later hb5
  have hlt := s.lt
  refine s5.put 0 _ (by simp [scells, xC]) (by simp [scells, xC]) he ?_
  intro W hW
  have k : ∀ (a : Addr) z, N + 1 ≤ a.block → a.block ≠ n → w.cell? a = some z → W.cell? a = some z := fun a z h1 h2 hc => hW a z h1 h2 (keeps hb5 hc)
  refine ⟨g, 0, _, 1, rfl, .inl rfl, by have := s.hn; omega, SRow.laid 0 (SRow.one (s.ex.e1 W k) (s.ex.e2 W k) (s.ex.e3 W k) (s.ex.e4 W k) (s.sx W k)) fun j z hj => ?_⟩
  have := rg j z hj
  exact hW _ _ (by show N + 1 ≤ g; have := s.hn; omega) (by show g ≠ n; omega) this
end
set_option maxHeartbeats 4000000 in
set_option maxRecDepth 100000 in
theorem l3Any_is (B : Nat) (a : Option Addr) (len cap b : Nat) (w : World) (hdw : Dw B a len cap b w) : Calls Tryz.prog 40 #[.pointer (some ⟨b, 0, none⟩)] w (Drawn B a len cap b limA w) := by
  have HD := hid hdw
  have hbN := hdw.cur.lt
  clear hdw
  go_enter Tryz.func40, Tryz.ntmps40
  go_wp2_with fail
  have b0 := aB w (.cells zero4 43)
  refine (l3Draw_all B a len cap b 3 (by omega) _ (HD.out.later b0)).mono ?_
  rintro e w2 ⟨x2, u2, rfl, g2, s2, d2, wr2⟩
  have hsz : xsize x2 ≤ 60 := s2
  have th2 : w2.there w.heap.size 0 4 := there_wr (newthere4 w 43) wr2 (by omega)
  have wr0 : Wr b w w2 := (Wr.of_below b0).trans wr2
  have g2' : EV w2 (w.heap.size + 1) x2.l u2 := g2.lower (by simp)
  have i2 := g2.isOne
  have HE := hid (And.intro g2' (And.intro d2 (And.intro wr0 (And.intro th2 hsz))))
  clear b0 g2 s2 d2 wr2 hsz th2 wr0 g2'
  go_wp2_with (refine sA rfl 43 _ _ rfl _ _ _ rfl rfl ?hta sizeIE2 ?hoa ?_; exact (newthere4 w2 _); exact (oneX x2 u2 i2); intro W3 hW; have HW3 := hid (newblk4 x2 u2 hW); have HT3 : Hid (W3.there w2.heap.size 0 4) := (by rw [← hW]; exact World.there_setCells (newthere4 w2 _) _ _ _); clear hW)
  obtain ⟨n3, hn3⟩ : ∃ n, w2.heap.size = n := ⟨_, rfl⟩
  have hNn : w.heap.size < n3 := by have := lt_there HE.out.2.2.2.1; omega
  have V3 : Hid (VarX B a len cap b w w.heap.size n3 x2 u2 W3) := ⟨by rw [← hn3]; exact HW3.out.1, by rw [← hn3]; exact HT3.out, EVx.of_old (b := b) HE.out.1 (.of_below HW3.out.2) (by omega) (Nat.le_of_eq hn3), HE.out.2.1.later HW3.out.2, HE.out.2.2.1.trans (.of_below HW3.out.2), there_later HE.out.2.2.2.1 HW3.out.2, rfl, hNn, hbN⟩
  have HSZ := hid HE.out.2.2.2.2
  rw [hn3]
  clear HE HW3 HT3 i2 hn3
  refine (l1Below_is B a len cap b 10 _ V3.out.dw (by omega)).mono ?_
  rintro e w4 ⟨y, rfl, ⟨hy0, hy9⟩, d4, wr4⟩
  have V4 := hid (V3.out.step wr4 d4)
  clear d4 wr4 V3
  obtain hyK | hyK | hyK | hyK | hyK : y = 0 ∨ y = 1 ∨ y = 2 ∨ y = 3 ∨ 4 ≤ y := by omega
  · have q0 : (y == 0) = true := by rw [beq_iff_eq]; omega
    clear hyK hy0 hy9
    go_wp2_with fail
    refine (l1Below_is B a len cap b 10 _ V4.out.dw (by omega)).mono ?_
    rintro e w5 ⟨z, rfl, _, d5, wr5⟩
    have V5 := hid (V4.out.step wr5 d5)
    obtain ⟨⟨c0, c1, c2, c3⟩, f0, f1, f2⟩ := V5.out.cells
    have V6 := hid (V5.out.set (y := ⟨⟨z, x2.h.n, x2.h.s⟩, x2.l⟩) 0 (.int .i64 z) (by omega) rfl rfl)
    clear d5 wr5 V4
    go_wp2_with (first | (refine wpList_load_mid rfl 43 _ rfl n3 0 rfl _ _ V6.out.rg Tryz.underlying43 rfl sizeIE2 ?_) | (refine sA rfl 43 _ _ rfl _ _ _ rfl rfl ?htb0 sizeIE2 ?hob0 ?_; exact V6.out.thN; exact (oneX _ _ V6.out.ex.ev.isOne); intro W hW; have HW := hid (close rfl hbN V6.out.thN V6.out.ex.ev V6.out.dw V6.out.wr hW); clear hW))
    obtain ⟨rg, g1, g2, g3⟩ := HW.out
    have hlv := run_loadVar_mid W w.heap.size 0 _ _ _ rg Tryz.underlying43 rfl sizeIE2
    refine bodyPost_ret (v := .agg (xC ((⟨⟨z, x2.h.n, x2.h.s⟩, x2.l⟩ : X)) u2).toArray) ?_ rfl ⟨_, u2, rfl, g1, (by have := HSZ.out; unfold limA; simp only [xsize] at this ⊢; omega), g2, g3⟩
    simp [results, Tryz.results40, asAddr, hlv, Act.put]
  · have q0 : (y == 0) = false := int_ne (by omega)
    have q1 : (y == 1) = true := by rw [beq_iff_eq]; omega
    clear hyK hy0 hy9
    go_wp2_with fail
    have b5 := aB w4 (.cells (([-1, 999999, 1000000] : List Int).map (Value.int .i64)).toArray 3)
    have hw4 : b < w4.heap.size := V4.out.dw.cur.lt
    refine (l1Int_is B a len cap b w4.heap.size 3 3 (fun _ => True) _ (V4.out.dw.later b5) (by omega) (by omega) (by omega) (fun j hj => ints_cell w4 _ _ okOdd _ rfl j hj)).mono ?_
    rintro e w5 ⟨z, rfl, _, d5, wr5⟩
    have V5 := hid ((V4.out.later b5).step wr5 d5)
    obtain ⟨⟨c0, c1, c2, c3⟩, f0, f1, f2⟩ := V5.out.cells
    have V6 := hid (V5.out.set (y := ⟨⟨x2.h.k, z, x2.h.s⟩, x2.l⟩) 1 (.int .i64 z) (by omega) rfl rfl)
    clear d5 wr5 V4 b5 hw4
    go_wp2_with (first | (refine wpList_load_mid rfl 43 _ rfl n3 0 rfl _ _ V6.out.rg Tryz.underlying43 rfl sizeIE2 ?_) | (refine sA rfl 43 _ _ rfl _ _ _ rfl rfl ?htb1 sizeIE2 ?hob1 ?_; exact V6.out.thN; exact (oneX _ _ V6.out.ex.ev.isOne); intro W hW; have HW := hid (close rfl hbN V6.out.thN V6.out.ex.ev V6.out.dw V6.out.wr hW); clear hW))
    obtain ⟨rg, g1, g2, g3⟩ := HW.out
    have hlv := run_loadVar_mid W w.heap.size 0 _ _ _ rg Tryz.underlying43 rfl sizeIE2
    refine bodyPost_ret (v := .agg (xC ((⟨⟨x2.h.k, z, x2.h.s⟩, x2.l⟩ : X)) u2).toArray) ?_ rfl ⟨_, u2, rfl, g1, (by have := HSZ.out; unfold limA; simp only [xsize] at this ⊢; omega), g2, g3⟩
    simp [results, Tryz.results40, asAddr, hlv, Act.put]
  · have q0 : (y == 0) = false := int_ne (by omega)
    have q1 : (y == 1) = false := int_ne (by omega)
    have q2 : (y == 2) = true := by rw [beq_iff_eq]; omega
    clear hyK hy0 hy9
    go_wp2_with fail
    have b5 := aB w4 (.cells (([⟨#[]⟩, ⟨#[102, 111, 114]⟩, ⟨#[120]⟩] : List ByteArray).map Value.string).toArray 9)
    have hw4 : b < w4.heap.size := V4.out.dw.cur.lt
    refine (l1Str_is B a len cap b w4.heap.size 3 3 (fun z => z.size ≤ 3) _ (V4.out.dw.later b5) (by omega) (by omega) (by omega) (fun j hj => strs_cell w4 _ _ okWords _ rfl j hj)).mono ?_
    rintro e w5 ⟨z, rfl, hz, d5, wr5⟩
    have V5 := hid ((V4.out.later b5).step wr5 d5)
    obtain ⟨⟨c0, c1, c2, c3⟩, f0, f1, f2⟩ := V5.out.cells
    have V6 := hid (V5.out.set (y := ⟨⟨x2.h.k, x2.h.n, z⟩, x2.l⟩) 2 (.string z) (by omega) rfl rfl)
    have HZ := hid hz
    clear d5 wr5 V4 b5 hw4 hz
    go_wp2_with (first | (refine wpList_load_mid rfl 43 _ rfl n3 0 rfl _ _ V6.out.rg Tryz.underlying43 rfl sizeIE2 ?_) | (refine sA rfl 43 _ _ rfl _ _ _ rfl rfl ?htb2 sizeIE2 ?hob2 ?_; exact V6.out.thN; exact (oneX _ _ V6.out.ex.ev.isOne); intro W hW; have HW := hid (close rfl hbN V6.out.thN V6.out.ex.ev V6.out.dw V6.out.wr hW); clear hW))
    obtain ⟨rg, g1, g2, g3⟩ := HW.out
    have hlv := run_loadVar_mid W w.heap.size 0 _ _ _ rg Tryz.underlying43 rfl sizeIE2
    refine bodyPost_ret (v := .agg (xC ((⟨⟨x2.h.k, x2.h.n, z⟩, x2.l⟩ : X)) u2).toArray) ?_ rfl ⟨_, u2, rfl, g1, (by have h1 := HSZ.out; have h2 := HZ.out; unfold limA; simp only [xsize] at h1 ⊢; omega), g2, g3⟩
    simp [results, Tryz.results40, asAddr, hlv, Act.put]
  · have q0 : (y == 0) = false := int_ne (by omega)
    have q1 : (y == 1) = false := int_ne (by omega)
    have q2 : (y == 2) = false := int_ne (by omega)
    have q3 : (y == 3) = true := by rw [beq_iff_eq]; omega
    clear hyK hy0 hy9
    go_wp2_with fail
    refine (l1Below_is B a len cap b 9 _ V4.out.dw (by omega)).mono ?_
    rintro e w5 ⟨z, rfl, ⟨hz0, hz9⟩, d5, wr5⟩
    have V5 := hid (V4.out.step wr5 d5)
    clear d5 wr5 V4
    obtain ⟨m, hm⟩ : ∃ m : Nat, z = (m : Int) := ⟨z.toNat, by omega⟩
    subst hm
    go_wp2
    go_loopw [4] (fun i wr => ∃ (k : Nat) (x : X) (u : Value), i = .int .i64 (k : Int) ∧ k ≤ 8 ∧ Hid (VarX B a len cap b w w.heap.size n3 x u wr ∧ xsize x + 2 * k ≤ 100)) (fun i _ => (RowKit.intOf i).toNat)
    case atStart => exact ⟨m, x2, u2, rfl, by omega, ⟨V5.out, by have := HSZ.out; omega⟩⟩
    case round =>
      obtain ⟨k, x, u, rfl, hk8, hV⟩ := hrel
      clear V5
      by_cases hk : k = 0
      · have hk0 : ¬ (0 : Int) < (k : Int) := by omega
        clear hk
        go_wp2_with (first | (refine wpList_load_mid rfl 43 _ rfl n3 0 rfl _ _ hV.out.1.rg Tryz.underlying43 rfl sizeIE2 ?_) | (refine sA rfl 43 _ _ rfl _ _ _ rfl rfl ?htb3 sizeIE2 ?hob3 ?_; exact hV.out.1.thN; exact (oneX _ _ hV.out.1.ex.ev.isOne); intro W hW; have HW := hid (close rfl hbN hV.out.1.thN hV.out.1.ex.ev hV.out.1.dw hV.out.1.wr hW); clear hW))
        obtain ⟨rg, g1, g2, g3⟩ := HW.out
        have hlv := run_loadVar_mid W w.heap.size 0 _ _ _ rg Tryz.underlying43 rfl sizeIE2
        refine bodyPost_ret (v := .agg (xC (x) u).toArray) ?_ rfl ⟨_, u, rfl, g1, (by have := hV.out.2; unfold limA; omega), g2, g3⟩
        simp [results, Tryz.results40, asAddr, hlv, Act.put]
      · have hk0 : (0 : Int) < (k : Int) := by omega
        clear hk
        go_wp2_with fail
        have bd : Below wr.heap.size wr wr.drew := (Below.refl _ wr).drew
        have Vd := hV.out.1.later bd
        have hsk := hV.out.2
        clear hV bd
        refine wp_region_any (by kernel_rfl) ?_
        refine wpAny_ready (rs := [0, 1]) (by kernel_rfl) (by simp) ?_
        refine AllReady.cons rfl (fun K hK => ?_) (AllReady.cons rfl (fun K hK => ?_) AllReady.nil)
        · rw [if_pos (by rfl)]
          simp only [zq]
          refine wp_load_mid 43 _ (by rfl) n3 0 (by rfl) _ _ Vd.rg Tryz.underlying43 rfl sizeIE2 ?_
          refine hK _ _ ?_
          simp only [Act.put, zp]
          refine wpAny_ready (rs := [1]) (by kernel_rfl) (by simp) ?_
          refine AllReady.cons rfl (fun K hK => ?_) AllReady.nil
          rw [if_pos (by rfl)]
          simp only [zq]
          have HK := hid hK
          clear hK
          go_wp2_with fail
          refine (l3Num_is 1 _).mono ?_
          rintro e w7 ⟨rfl, hb7⟩
          have V7 := Vd.later hb7
          clear hb7
          go_wp2_with fail
          refine HK.out _ _ ?_
          clear HK
          have hw7 : w.heap.size + 1 ≤ w7.heap.size := by have := lt_there V7.thN; omega
          refine wpAny_ready (rs := [2]) (by kernel_rfl) (by simp) ?_
          refine AllReady.cons rfl (fun K hK => ?_) AllReady.nil
          rw [if_pos (by rfl)]
          simp only [zq]
          have HK := hid hK
          clear hK
          go_wp2_with fail
          refine (l3Two_at 4 x ⟨⟨1, 1, ⟨#[]⟩⟩, .nil⟩ (w.heap.size + 1) _ u (.slice Option.none 0 0) V7.ex.ev (EV.nil _ _ _ _)).mono ?_
          rintro e w8 ⟨g, rfl, hg, hrg, hb8⟩
          have V8 := V7.later hb8
          have hgn : g ≠ n3 := by have := lt_there V7.th; omega
          have E8 : EVx n3 w8 (w.heap.size + 1) (.node 0 0 x.h x.l (.node 0 0 ⟨1, 1, ⟨#[]⟩⟩ .nil .nil)) (.slice (some ⟨g, 0, Option.none⟩) 2 2) := fun W hW => EV.laidLo (F := .node 0 0 x.h x.l (.node 0 0 ⟨1, 1, ⟨#[]⟩⟩ .nil .nil)) ((ERow.one ((V7.ex.wr (b := b) (.of_below hb8) (by omega)) W hW)).app (P := .node 0 0 x.h x.l .nil) (ERow.one (h := ⟨1, 1, ⟨#[]⟩⟩) (l := .nil) (EV.nil _ _ _ _))) (fun j z hj => hW _ _ (by show w.heap.size + 1 ≤ g; omega) hgn (hrg j z hj)) 2 (by omega)
          have V9 := hid (V8.sets (y := ⟨⟨4, 0, ⟨#[]⟩⟩, .node 0 0 x.h x.l (.node 0 0 ⟨1, 1, ⟨#[]⟩⟩ .nil .nil)⟩) E8)
          have TH := V8.th
          clear hb8 hrg E8 V8 V7 hgn
          go_wp2_with fail
          refine HK.out _ _ ?_
          clear HK
          refine wpAny_ready (rs := [3]) (by kernel_rfl) (by simp) ?_
          refine AllReady.cons rfl (fun K hK => ?_) AllReady.nil
          rw [if_pos (by rfl)]
          simp only [zq]
          refine wp_store_mid 43 _ _ rfl _ _ _ rfl rfl ?hsx1 sizeIE2 ?hux1 ?_
          case hsx1 => exact TH
          case hux1 => exact oneX (⟨⟨4, 0, ⟨#[]⟩⟩, .node 0 0 x.h x.l (.node 0 0 ⟨1, 1, ⟨#[]⟩⟩ .nil .nil)⟩ : X) _ rfl
          refine hK _ _ ?_
          simp only [Act.put, zp]
          refine wpAny_done (by kernel_rfl) ?_ _
          clear hK TH
          go_wp2
          go_roundw
          case rel => exact ⟨k - 1, _, _, by go_num, by omega, ⟨V9.out, by simp only [xsize, esize] at hsk ⊢; have h0 : (⟨#[]⟩ : ByteArray).size = 0 := rfl; omega⟩⟩
          case measure => simp [RowKit.intOf]; omega
        · rw [if_pos (by rfl)]
          simp only [zq]
          have HK := hid hK
          clear hK
          go_wp2_with fail
          refine (l3Num_is 1 _).mono ?_
          rintro e w7 ⟨rfl, hb7⟩
          have V7 := Vd.later hb7
          clear hb7
          go_wp2_with fail
          refine HK.out _ _ ?_
          clear HK
          refine wpAny_ready (rs := [0]) (by kernel_rfl) (by simp) ?_
          refine AllReady.cons rfl (fun K hK => ?_) AllReady.nil
          rw [if_pos (by rfl)]
          simp only [zq]
          refine wp_load_mid 43 _ (by rfl) n3 0 (by rfl) _ _ V7.rg Tryz.underlying43 rfl sizeIE2 ?_
          refine hK _ _ ?_
          simp only [Act.put, zp]
          have hw7 : w.heap.size + 1 ≤ w7.heap.size := by have := lt_there V7.thN; omega
          refine wpAny_ready (rs := [2]) (by kernel_rfl) (by simp) ?_
          refine AllReady.cons rfl (fun K hK => ?_) AllReady.nil
          rw [if_pos (by rfl)]
          simp only [zq]
          have HK := hid hK
          clear hK
          go_wp2_with fail
          refine (l3Two_at 4 x ⟨⟨1, 1, ⟨#[]⟩⟩, .nil⟩ (w.heap.size + 1) _ u (.slice Option.none 0 0) V7.ex.ev (EV.nil _ _ _ _)).mono ?_
          rintro e w8 ⟨g, rfl, hg, hrg, hb8⟩
          have V8 := V7.later hb8
          have hgn : g ≠ n3 := by have := lt_there V7.th; omega
          have E8 : EVx n3 w8 (w.heap.size + 1) (.node 0 0 x.h x.l (.node 0 0 ⟨1, 1, ⟨#[]⟩⟩ .nil .nil)) (.slice (some ⟨g, 0, Option.none⟩) 2 2) := fun W hW => EV.laidLo (F := .node 0 0 x.h x.l (.node 0 0 ⟨1, 1, ⟨#[]⟩⟩ .nil .nil)) ((ERow.one ((V7.ex.wr (b := b) (.of_below hb8) (by omega)) W hW)).app (P := .node 0 0 x.h x.l .nil) (ERow.one (h := ⟨1, 1, ⟨#[]⟩⟩) (l := .nil) (EV.nil _ _ _ _))) (fun j z hj => hW _ _ (by show w.heap.size + 1 ≤ g; omega) hgn (hrg j z hj)) 2 (by omega)
          have V9 := hid (V8.sets (y := ⟨⟨4, 0, ⟨#[]⟩⟩, .node 0 0 x.h x.l (.node 0 0 ⟨1, 1, ⟨#[]⟩⟩ .nil .nil)⟩) E8)
          have TH := V8.th
          clear hb8 hrg E8 V8 V7 hgn
          go_wp2_with fail
          refine HK.out _ _ ?_
          clear HK
          refine wpAny_ready (rs := [3]) (by kernel_rfl) (by simp) ?_
          refine AllReady.cons rfl (fun K hK => ?_) AllReady.nil
          rw [if_pos (by rfl)]
          simp only [zq]
          refine wp_store_mid 43 _ _ rfl _ _ _ rfl rfl ?hsx2 sizeIE2 ?hux2 ?_
          case hsx2 => exact TH
          case hux2 => exact oneX (⟨⟨4, 0, ⟨#[]⟩⟩, .node 0 0 x.h x.l (.node 0 0 ⟨1, 1, ⟨#[]⟩⟩ .nil .nil)⟩ : X) _ rfl
          refine hK _ _ ?_
          simp only [Act.put, zp]
          refine wpAny_done (by kernel_rfl) ?_ _
          clear hK TH
          go_wp2
          go_roundw
          case rel => exact ⟨k - 1, _, _, by go_num, by omega, ⟨V9.out, by simp only [xsize, esize] at hsk ⊢; have h0 : (⟨#[]⟩ : ByteArray).size = 0 := rfl; omega⟩⟩
          case measure => simp [RowKit.intOf]; omega
  · have q0 : (y == 0) = false := int_ne (by omega)
    have q1 : (y == 1) = false := int_ne (by omega)
    have q2 : (y == 2) = false := int_ne (by omega)
    have q3 : (y == 3) = false := int_ne (by omega)
    clear hyK hy0 hy9
    go_wp2_with (first | (refine wpList_load_mid rfl 43 _ rfl n3 0 rfl _ _ V4.out.rg Tryz.underlying43 rfl sizeIE2 ?_) | (refine sA rfl 43 _ _ rfl _ _ _ rfl rfl ?htb4 sizeIE2 ?hob4 ?_; exact V4.out.thN; exact (oneX _ _ V4.out.ex.ev.isOne); intro W hW; have HW := hid (close rfl hbN V4.out.thN V4.out.ex.ev V4.out.dw V4.out.wr hW); clear hW))
    obtain ⟨rg, g1, g2, g3⟩ := HW.out
    have hlv := run_loadVar_mid W w.heap.size 0 _ _ _ rg Tryz.underlying43 rfl sizeIE2
    refine bodyPost_ret (v := .agg (xC (x2) u2).toArray) ?_ rfl ⟨_, u2, rfl, g1, (by have := HSZ.out; unfold limA; omega), g2, g3⟩
    simp [results, Tryz.results40, asAddr, hlv, Act.put]
end Go.Proofs.YtpinockfakndlaaGreat
