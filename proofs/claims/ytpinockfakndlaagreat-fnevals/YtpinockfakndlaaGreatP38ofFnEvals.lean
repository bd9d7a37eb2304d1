/-
  Texts in one: MarkTree, MarkStmt, MarkProg, StoLaw.
-/
import Derived.Test.YtpinockfakndlaaGreatP37ofFnEvals
import Derived.Test.YtpinockfakndlaaGreatP03ofFnEvals
import Derived.Test.YtpinockfakndlaaGreatP06ofFnEvals
import Derived.Test.YtpinockfakndlaaGreatP22ofFnEvals
import Derived.Test.YtpinockfakndlaaGreatP31ofFnEvals
/-
  The contracts of markExpS and markStmtS: every number and every text of a tree is written over, nothing else.
-/
namespace Go.Proofs.YtpinockfakndlaaGreat
open Go.RowKit Go.Lib
set_option linter.unusedSimpArgs false
set_option linter.unusedVariables false

/-- A number stays a number, a text a text, all else as it is. -/
def likeV : Value → Value → Prop
  | .int .i64 _, u => ∃ n, u = .int .i64 n
  | .string _, u => ∃ s, u = .string s
  | v, u => u = v
theorem likeV.refl (v : Value) : likeV v v := by
  unfold likeV; split
  · exact ⟨_, rfl⟩
  · exact ⟨_, rfl⟩
  · rfl
theorem likeV.trans {a b c : Value} (h : likeV a b) (g : likeV b c) : likeV a c := by
  unfold likeV at h
  split at h
  · obtain ⟨n, rfl⟩ := h; exact g
  · obtain ⟨n, rfl⟩ := h; exact g
  · subst h; exact g
/-- What marking does to memory: only blocks from lo up to hi turn, numbers and texts alone, and nothing is frozen or thawed. -/
structure Mk (lo hi : Nat) (w w' : World) : Prop where
  gap : Gap lo hi w w'
  like : ∀ (a : Addr) v, w.cell? a = some v → ∃ u, w'.cell? a = some u ∧ likeV v u
  free : ∀ (a : Addr), (∃ v, w.cell? a = some v) → w.frozen? a = false → w'.frozen? a = false
theorem Mk.refl (lo hi : Nat) (w : World) : Mk lo hi w w := ⟨Gap.refl _ _ _, fun a v h => ⟨v, h, likeV.refl v⟩, fun _ _ h => h⟩
theorem Mk.trans {lo hi : Nat} {w w1 w2 : World} (h : Mk lo hi w w1) (g : Mk lo hi w1 w2) : Mk lo hi w w2 := by
  refine ⟨h.gap.trans g.gap, fun a v ha => ?_, fun a ⟨v, ha⟩ hf => ?_⟩
  · obtain ⟨u, hu, h1⟩ := h.like a v ha
    obtain ⟨x, hx, h2⟩ := g.like a u hu
    exact ⟨x, hx, h1.trans h2⟩
  · obtain ⟨u, hu, _⟩ := h.like a v ha
    exact g.free a ⟨u, hu⟩ (h.free a ⟨v, ha⟩ hf)
theorem Mk.of {lo hi : Nat} {w w' : World} (h : Below w.heap.size w w') : Mk lo hi w w' :=
  ⟨Gap.of _ _ h, fun a v ha => ⟨v, keeps h ha, likeV.refl v⟩, fun a ⟨v, ha⟩ hf => by
    have := h.block a.block (lt_of_cellA ha)
    unfold World.frozen? at hf ⊢
    simp only [this]; exact hf⟩
theorem Mk.int {lo hi : Nat} {w : World} {p : Addr} {n : Int} (hp : w.cell? p = some (.int .i64 n)) (h1 : lo ≤ p.block) (h2 : p.block < hi) (m : Int) : Mk lo hi w (w.setCell p (.int .i64 m)) := by
  refine ⟨⟨rfl, rfl, rfl, by simp, fun k hk hc => Below.heap_setCell _ _ _ _ (by omega)⟩, fun a v ha => ?_, fun a _ hf => by simpa using hf⟩
  by_cases e : a = p
  · subst e
    rw [hp] at ha; injection ha with ha; subst ha
    exact ⟨_, World.cell?_setCell_same _ _ _ hp, ⟨m, rfl⟩⟩
  · exact ⟨v, by rw [World.cell?_setCell_other _ _ _ _ (fun e' => e e'.symm)]; exact ha, likeV.refl v⟩
theorem Mk.str {lo hi : Nat} {w : World} {p : Addr} {s : ByteArray} (hp : w.cell? p = some (.string s)) (h1 : lo ≤ p.block) (h2 : p.block < hi) (t : ByteArray) : Mk lo hi w (w.setCell p (.string t)) := by
  refine ⟨⟨rfl, rfl, rfl, by simp, fun k hk hc => Below.heap_setCell _ _ _ _ (by omega)⟩, fun a v ha => ?_, fun a _ hf => by simpa using hf⟩
  by_cases e : a = p
  · subst e
    rw [hp] at ha; injection ha with ha; subst ha
    exact ⟨_, World.cell?_setCell_same _ _ _ hp, ⟨t, rfl⟩⟩
  · exact ⟨v, by rw [World.cell?_setCell_other _ _ _ _ (fun e' => e e'.symm)]; exact ha, likeV.refl v⟩
/-- A number, a text that may be written over, in a block from lo up to hi. -/
def IntC (w : World) (lo hi b o : Nat) : Prop := (lo ≤ b ∧ b < hi) ∧ w.frozen? ⟨b, o, Option.none⟩ = false ∧ ∃ n, w.cell? ⟨b, o, Option.none⟩ = some (.int .i64 n)
def StrC (w : World) (lo hi b o : Nat) : Prop := (lo ≤ b ∧ b < hi) ∧ w.frozen? ⟨b, o, Option.none⟩ = false ∧ ∃ n, w.cell? ⟨b, o, Option.none⟩ = some (.string n)
theorem IntC.mk {w w' : World} {lo hi b o : Nat} (h : IntC w lo hi b o) (m : Mk lo hi w w') : IntC w' lo hi b o := by
  obtain ⟨h1, h2, n, h3⟩ := h
  obtain ⟨u, hu, hl⟩ := m.like _ _ h3
  obtain ⟨k, rfl⟩ := hl
  exact ⟨h1, m.free _ ⟨_, h3⟩ h2, k, hu⟩
theorem StrC.mk {w w' : World} {lo hi b o : Nat} (h : StrC w lo hi b o) (m : Mk lo hi w w') : StrC w' lo hi b o := by
  obtain ⟨h1, h2, n, h3⟩ := h
  obtain ⟨u, hu, hl⟩ := m.like _ _ h3
  obtain ⟨k, rfl⟩ := hl
  exact ⟨h1, m.free _ ⟨_, h3⟩ h2, k, hu⟩
theorem slice_mk {w w' : World} {lo hi n c : Nat} {a : Addr} {p : Option Addr} (h : w.cell? a = some (.slice p n c)) (m : Mk lo hi w w') : w'.cell? a = some (.slice p n c) := by
  obtain ⟨u, hu, hl⟩ := m.like _ _ h
  have : u = .slice p n c := hl
  rw [← this]; exact hu
/-- A tree that may be written over, whatever its numbers and texts are. -/
def EK (w : World) (lo hi : Nat) : EF → Nat → Nat → Prop
  | .nil, _, _ => True
  | .node _ _ h l r, b, o =>
    (IntC w lo hi b o ∧ IntC w lo hi b (o + 1) ∧ StrC w lo hi b (o + 2) ∧ ∃ b' o' a' c', w.cell? ⟨b, o + 3, Option.none⟩ = some (.slice a' (elen l) c') ∧ (a' = some ⟨b', o', Option.none⟩ ∨ l = .nil) ∧ EK w lo hi l b' o') ∧ EK w lo hi r b (o + 4)
def EKV (w : World) (lo hi : Nat) (F : EF) (v : Value) : Prop := ∃ b o a c, v = .slice a (elen F) c ∧ (a = some ⟨b, o, Option.none⟩ ∨ F = .nil) ∧ EK w lo hi F b o
theorem EK.mk {w w' : World} {lo hi : Nat} (m : Mk lo hi w w') : ∀ (F : EF) (b o : Nat), EK w lo hi F b o → EK w' lo hi F b o
  | .nil, _, _, _ => trivial
  | .node _ _ h l r, b, o, ⟨⟨h0, h1, h2, b', o', a', c', h3, e2, h4⟩, h5⟩ => ⟨⟨h0.mk m, h1.mk m, h2.mk m, b', o', a', c', slice_mk h3 m, e2, EK.mk m l b' o' h4⟩, EK.mk m r b _ h5⟩
theorem EKV.mk {w w' : World} {lo hi : Nat} {F : EF} {v : Value} (h : EKV w lo hi F v) (m : Mk lo hi w w') : EKV w' lo hi F v := by
  obtain ⟨b, o, a, c, h1, h2, h3⟩ := h
  exact ⟨b, o, a, c, h1, h2, EK.mk m F b o h3⟩
theorem int_of {w : World} {lo b o : Nat} {n : Int} (h : rdF w ⟨b, o, Option.none⟩ = some (.int .i64 n)) (hb : lo ≤ b) : IntC w lo w.heap.size b o := ⟨⟨hb, lt_of_cellA (rdF_iff.1 h).2⟩, (rdF_iff.1 h).1, n, (rdF_iff.1 h).2⟩
theorem str_of {w : World} {lo b o : Nat} {n : ByteArray} (h : rdF w ⟨b, o, Option.none⟩ = some (.string n)) (hb : lo ≤ b) : StrC w lo w.heap.size b o := ⟨⟨hb, lt_of_cellA (rdF_iff.1 h).2⟩, (rdF_iff.1 h).1, n, (rdF_iff.1 h).2⟩
theorem EK.of {w : World} {lo : Nat} : ∀ (F : EF) (b o : Nat), lo ≤ b → EInF w lo F b o → EK w lo w.heap.size F b o
  | .nil, _, _, _, _ => trivial
  | .node _ _ h l r, b, o, hb, ⟨⟨h0, h1, h2, v, h3, b', o', a', c', e1, e2, e3, h4⟩, h5⟩ =>
    ⟨⟨int_of h0 hb, int_of h1 hb, str_of h2 hb, b', o', a', c', by rw [← e1]; exact (rdF_iff.1 h3).2, e2, EK.of l b' o' e3 h4⟩, EK.of r b _ hb h5⟩
theorem EKV.of {w : World} {lo : Nat} {F : EF} {v : Value} (h : EVF w lo F v) : EKV w lo w.heap.size F v := by
  obtain ⟨b, o, a, c, h1, h2, h3, h4⟩ := h
  exact ⟨b, o, a, c, h1, h2, EK.of F b o h3 h4⟩
theorem run_store1 {P : Program} (w : World) (b o : Nat) (ty : TypeId) (v : Value) (hc : v.cells = #[v]) (hv : v.oneCell' = true) (hs : ∃ u, w.cell? ⟨b, o, Option.none⟩ = some u) (hf : w.frozen? ⟨b, o, Option.none⟩ = false) (hi : (P.info? ty).map (·.size) = some 1) :
    (storeVar ty ⟨b, o, Option.none⟩ v).run P w = .ok () (w.setCell ⟨b, o, Option.none⟩ v) := by
  have := run_storeCells_cells (P := P) b o [v] 0 w (fun j hj => by simp at hj; subst hj; obtain ⟨u, hu⟩ := hs; simp [hu]) (fun j hj => by simp at hj; subst hj; simpa using hf) (fun x hx => by simp at hx; subst hx; exact hv)
  cases hq : P.info? ty with
  | none => simp [hq] at hi
  | some i =>
    have hs : i.size = 1 := by simpa [hq] using hi
    simp only [Nat.add_zero, World.setCells] at this
    simp [storeVar, sizeOf, typeInfo, hq, hc, hs, this]
theorem store_int {P : Program} {ops : Array Oper} {rest : List Oper} {op : Oper} {a : Act} {w : World} {Q : Exit → Act → World → Prop} {lo hi : Nat} (hgd : op.guard = none) (x y : Operand) (ty : TypeId) (ho : op.op = .store ty x y)
    (b o : Nat) (n : Int) (hx : a.eval x = .pointer (some ⟨b, o, Option.none⟩)) (hy : a.eval y = .int .i64 n) (hsz : (P.info? ty).map (·.size) = some 1) (hc : IntC w lo hi b o)
    (h : ∀ W, Mk lo hi w W → wpList P ops Q rest (a.put op.dst undef) W) : wpList P ops Q (op :: rest) a w := by
  obtain ⟨⟨h1, h2⟩, hf, n0, hc⟩ := hc
  refine wpList_plain hgd fun K hK => ?_
  unfold Oper.wp execOp
  simp only [ho, hx, hy, Instr.storeAt, Instr.sureAddr, Sem.run_bind, Sem.run_pure, Result.andThen_ok, run_store1 w b o ty (.int .i64 n) rfl rfl ⟨_, hc⟩ hf hsz]
  exact hK _ _ (h _ (Mk.int hc h1 h2 n))
theorem store_str {P : Program} {ops : Array Oper} {rest : List Oper} {op : Oper} {a : Act} {w : World} {Q : Exit → Act → World → Prop} {lo hi : Nat} (hgd : op.guard = none) (x y : Operand) (ty : TypeId) (ho : op.op = .store ty x y)
    (b o : Nat) (n : ByteArray) (hx : a.eval x = .pointer (some ⟨b, o, Option.none⟩)) (hy : a.eval y = .string n) (hsz : (P.info? ty).map (·.size) = some 1) (hc : StrC w lo hi b o)
    (h : ∀ W, Mk lo hi w W → wpList P ops Q rest (a.put op.dst undef) W) : wpList P ops Q (op :: rest) a w := by
  obtain ⟨⟨h1, h2⟩, hf, n0, hc⟩ := hc
  refine wpList_plain hgd fun K hK => ?_
  unfold Oper.wp execOp
  simp only [ho, hx, hy, Instr.storeAt, Instr.sureAddr, Sem.run_bind, Sem.run_pure, Result.andThen_ok, run_store1 w b o ty (.string n) rfl rfl ⟨_, hc⟩ hf hsz]
  exact hK _ _ (h _ (Mk.str hc h1 h2 n))
theorem sizeI1 : (Tryz.prog.info? 3).map (·.size) = some 1 := by kernel_rfl
theorem sizeT1 : (Tryz.prog.info? 9).map (·.size) = some 1 := by kernel_rfl
/-- One expression that may be written over. -/
structure XK (w : World) (lo hi : Nat) (l : EF) (b o : Nat) (v : Value) : Prop where
  i0 : IntC w lo hi b o
  i1 : IntC w lo hi b (o + 1)
  s2 : StrC w lo hi b (o + 2)
  c3 : w.cell? ⟨b, o + 3, Option.none⟩ = some v
  ev : EKV w lo hi l v
theorem XK.on {w w' : World} {lo hi : Nat} {l : EF} {b o : Nat} {v : Value} (h : XK w lo hi l b o v) (m : Mk lo hi w w') : XK w' lo hi l b o v := by
  refine ⟨h.i0.mk m, h.i1.mk m, h.s2.mk m, ?_, h.ev.mk m⟩
  obtain ⟨b', o', a, c, rfl, _⟩ := h.ev
  exact slice_mk h.c3 m
theorem EK.open {w : World} {lo hi p q b o : Nat} {h : EH} {l r : EF} (hk : EK w lo hi (.node p q h l r) b o) : (∃ v, XK w lo hi l b o v) ∧ EK w lo hi r b (o + 4) := by
  obtain ⟨⟨h0, h1, h2, b', o', a', c', h3, e2, h4⟩, h5⟩ := hk
  exact ⟨⟨_, h0, h1, h2, h3, b', o', a', c', rfl, e2, h4⟩, h5⟩
theorem EKV.shape {w : World} {lo hi : Nat} {F : EF} {v : Value} (h : EKV w lo hi F v) : ∃ a c, v = .slice a (elen F) c := by obtain ⟨b, o, a, c, h1, _⟩ := h; exact ⟨a, c, h1⟩
end Go.Proofs.YtpinockfakndlaaGreat
/-
  The contract of markStmtS.
-/
namespace Go.Proofs.YtpinockfakndlaaGreat
open Go.RowKit Go.Lib
set_option linter.unusedSimpArgs false
set_option linter.unusedVariables false

/-- One statement that may be written over. -/
structure StK (w : World) (lo hi : Nat) (h : SH) (b o : Nat) (v1 v2 v3 v4 v : Value) (S : World → Prop) : Prop where
  i0 : IntC w lo hi b o
  s1 : StrC w lo hi b (o + 1)
  x1 : XK w lo hi h.x1.l b (o + 2) v1
  x2 : XK w lo hi h.x2.l b (o + 6) v2
  x3 : XK w lo hi h.x3.l b (o + 10) v3
  x4 : XK w lo hi h.x4.l b (o + 14) v4
  c18 : w.cell? ⟨b, o + 18, Option.none⟩ = some v
  sl : ∃ p n c, v = .slice p n c
  sv : S w
/-- A row of statements that may be written over. -/
def SK (w : World) (lo hi : Nat) : SF → Nat → Nat → Prop
  | .nil, _, _ => True
  | .node _ _ h l r, b, o =>
    (∃ v1 v2 v3 v4 v, StK w lo hi h b o v1 v2 v3 v4 v (fun w => ∃ b' o' a' c', v = .slice a' (slen l) c' ∧ (a' = some ⟨b', o', Option.none⟩ ∨ l = .nil) ∧ SK w lo hi l b' o')) ∧ SK w lo hi r b (o + 19)
def SKV (w : World) (lo hi : Nat) (F : SF) (v : Value) : Prop := ∃ b o a c, v = .slice a (slen F) c ∧ (a = some ⟨b, o, Option.none⟩ ∨ F = .nil) ∧ SK w lo hi F b o
theorem StK.on' {w w' : World} {lo hi : Nat} {h : SH} {b o : Nat} {v1 v2 v3 v4 v : Value} {S : World → Prop} (k : StK w lo hi h b o v1 v2 v3 v4 v S) (m : Mk lo hi w w') (hs : S w → S w') : StK w' lo hi h b o v1 v2 v3 v4 v S := by
  obtain ⟨p, n, c, rfl⟩ := k.sl
  exact ⟨k.i0.mk m, k.s1.mk m, k.x1.on m, k.x2.on m, k.x3.on m, k.x4.on m, slice_mk k.c18 m, ⟨p, n, c, rfl⟩, hs k.sv⟩
theorem SK.mk {w w' : World} {lo hi : Nat} (m : Mk lo hi w w') : ∀ (F : SF) (b o : Nat), SK w lo hi F b o → SK w' lo hi F b o
  | .nil, _, _, _ => trivial
  | .node _ _ h l r, b, o, ⟨⟨v1, v2, v3, v4, v, k⟩, h5⟩ => ⟨⟨v1, v2, v3, v4, v, k.on' m (fun ⟨b', o', a', c', e1, e2, e3⟩ => ⟨b', o', a', c', e1, e2, SK.mk m l b' o' e3⟩)⟩, SK.mk m r b _ h5⟩
theorem SKV.mk {w w' : World} {lo hi : Nat} {F : SF} {v : Value} (h : SKV w lo hi F v) (m : Mk lo hi w w') : SKV w' lo hi F v := by
  obtain ⟨b, o, a, c, h1, h2, h3⟩ := h
  exact ⟨b, o, a, c, h1, h2, SK.mk m F b o h3⟩
abbrev StL (w : World) (lo hi : Nat) (h : SH) (l : SF) (b o : Nat) (v1 v2 v3 v4 v : Value) : Prop := StK w lo hi h b o v1 v2 v3 v4 v (fun w => SKV w lo hi l v)
theorem StK.on {w w' : World} {lo hi : Nat} {h : SH} {l : SF} {b o : Nat} {v1 v2 v3 v4 v : Value} (k : StL w lo hi h l b o v1 v2 v3 v4 v) (m : Mk lo hi w w') : StL w' lo hi h l b o v1 v2 v3 v4 v := k.on' m (fun s => s.mk m)
theorem SK.open {w : World} {lo hi p q b o : Nat} {h : SH} {l r : SF} (hk : SK w lo hi (.node p q h l r) b o) : (∃ v1 v2 v3 v4 v, StL w lo hi h l b o v1 v2 v3 v4 v) ∧ SK w lo hi r b (o + 19) := by
  obtain ⟨⟨v1, v2, v3, v4, v, k⟩, h5⟩ := hk
  exact ⟨⟨v1, v2, v3, v4, v, k.i0, k.s1, k.x1, k.x2, k.x3, k.x4, k.c18, k.sl, k.sv⟩, h5⟩
theorem XK.of {w : World} {lo b o : Nat} {x : X} (hb : lo ≤ b) (h : XCF w lo x b o) : ∃ v, XK w lo w.heap.size x.l b o v := by
  obtain ⟨h0, h1, h2, v, h3, h4⟩ := h
  exact ⟨v, int_of h0 hb, int_of h1 hb, str_of h2 hb, (rdF_iff.1 h3).2, EKV.of h4⟩
theorem SK.of {w : World} {lo : Nat} : ∀ (F : SF) (b o : Nat), lo ≤ b → SInF w lo F b o → SK w lo w.heap.size F b o
  | .nil, _, _, _, _ => trivial
  | .node _ _ h l r, b, o, hb, ⟨⟨h0, h1, h2, h3, h4, h5, v, h6, b', o', a', c', e1, e2, e3, h7⟩, h8⟩ => by
    obtain ⟨v1, k1⟩ := XK.of hb h2
    obtain ⟨v2, k2⟩ := XK.of hb h3
    obtain ⟨v3, k3⟩ := XK.of hb h4
    obtain ⟨v4, k4⟩ := XK.of hb h5
    exact ⟨⟨v1, v2, v3, v4, v, int_of h0 hb, str_of h1 hb, k1, k2, k3, k4, (rdF_iff.1 h6).2, ⟨_, _, _, e1⟩, b', o', a', c', e1, e2, SK.of l b' o' e3 h7⟩, SK.of r b _ hb h8⟩
theorem SKV.of {w : World} {lo : Nat} {F : SF} {v : Value} (h : SVF w lo F v) : SKV w lo w.heap.size F v := by
  obtain ⟨b, o, a, c, h1, h2, h3, h4⟩ := h
  exact ⟨b, o, a, c, h1, h2, SK.of F b o h3 h4⟩
/-- How many marks there are at most. -/
def smk : SF → Nat
  | .nil => 0
  | .node _ _ h l r => 14 + 3 * (enodes h.x1.l + enodes h.x2.l + enodes h.x3.l + enodes h.x4.l) + smk l + smk r
theorem smk_le : ∀ F : SF, smk F ≤ 14 * ssize F
  | .nil => Nat.le_refl _
  | .node _ _ h l r => by
    have := smk_le l; have := smk_le r
    have := enodes_le h.x1.l; have := enodes_le h.x2.l; have := enodes_le h.x3.l; have := enodes_le h.x4.l
    simp only [smk, ssize, hsize, xsize]; omega
end Go.Proofs.YtpinockfakndlaaGreat
/-
  Programs copied so that they may be written over; markArrS, markProg.
-/
namespace Go.Proofs.YtpinockfakndlaaGreat
open Go.RowKit Go.Lib
set_option linter.unusedSimpArgs false
set_option linter.unusedVariables false

/-- A slice that holds these arrays, none of its cells frozen. -/
def AVF (w : World) (lo : Nat) (v : Value) (ts : List AR) : Prop :=
  ∃ ao cap, v = .slice ao ts.length cap ∧ (ts = [] ∨ ∃ g off, ao = some ⟨g, off, Option.none⟩ ∧ lo ≤ g ∧ g < w.heap.size ∧ ∀ i t, ts[i]? = some t → rdF w ⟨g, off + i * 2, Option.none⟩ = some (.string t.s) ∧ rdF w ⟨g, off + i * 2 + 1, Option.none⟩ = some (.int .i64 t.n))
theorem AVF.plain {w : World} {lo : Nat} {v : Value} {ts : List AR} (h : AVF w lo v ts) : AV w lo v ts := by
  obtain ⟨ao, cap, h1, h2⟩ := h
  refine ⟨ao, cap, h1, ?_⟩
  rcases h2 with h | ⟨g, off, e1, e2, e3, e4⟩
  · exact .inl h
  · exact .inr ⟨g, off, e1, e2, e3, fun i t hi => ⟨(rdF_iff.1 (e4 i t hi).1).2, (rdF_iff.1 (e4 i t hi).2).2⟩⟩
theorem AVF.shape {w : World} {lo : Nat} {v : Value} {ts : List AR} (h : AVF w lo v ts) : ∃ a c, v = .slice a ts.length c := by obtain ⟨a, c, h1, _⟩ := h; exact ⟨a, c, h1⟩
theorem AVF.same {w w' : World} {lo lo' : Nat} {v : Value} {ts : List AR} (hlo : lo' ≤ lo) (h : AVF w lo v ts) (hk : KeepsF lo w w') (hz : w.heap.size ≤ w'.heap.size) : AVF w' lo' v ts := by
  obtain ⟨ao, cap, h1, h2⟩ := h
  refine ⟨ao, cap, h1, ?_⟩
  rcases h2 with h | ⟨g, off, e1, e2, e3, e4⟩
  · exact .inl h
  · exact .inr ⟨g, off, e1, Nat.le_trans hlo e2, Nat.lt_of_lt_of_le e3 hz, fun i t hi => ⟨hk _ _ e2 (e4 i t hi).1, hk _ _ e2 (e4 i t hi).2⟩⟩
theorem AVF.later {w w' : World} {lo : Nat} {v : Value} {ts : List AR} (h : AVF w lo v ts) (hb : Below w.heap.size w w') : AVF w' lo v ts := h.same (Nat.le_refl _) (KeepsF.later hb) hb.size
theorem AVF.laid {w : World} {g c : Nat} {ts : List AR} (hg : g < w.heap.size) (hr : w.rangeAt g 0 (acells ts)) (ht : w.there g 0 (ts.length * 2)) : AVF w g (.slice (some ⟨g, 0, Option.none⟩) ts.length c) ts := by
  have hf := rgF_of hr ht (by rw [acells_len]; exact Nat.le_refl _)
  exact ⟨_, c, rfl, .inr ⟨g, 0, rfl, Nat.le_refl _, hg, fun i t hi => ⟨hf _ _ (acells_get ts i t hi).1, by have := hf _ _ (acells_get ts i t hi).2; rwa [← Nat.add_assoc] at this⟩⟩⟩
theorem set3F {w w1 : World} {N : Nat} (hb : Below w.heap.size w w1) (hN : w.heap.size = N) (p x y : Value) : Below w.heap.size w (((w1.setCell ⟨N + 2, 1, Option.none⟩ p).setCell ⟨N + 1, 0, Option.none⟩ x).setCell ⟨N + 1, 1, Option.none⟩ y) ∧
    KeepsF (w.heap.size + 3) w1 (((w1.setCell ⟨N + 2, 1, Option.none⟩ p).setCell ⟨N + 1, 0, Option.none⟩ x).setCell ⟨N + 1, 1, Option.none⟩ y) ∧ w1.heap.size ≤ (((w1.setCell ⟨N + 2, 1, Option.none⟩ p).setCell ⟨N + 1, 0, Option.none⟩ x).setCell ⟨N + 1, 1, Option.none⟩ y).heap.size := by
  subst hN
  exact ⟨((hb.setCell (p := ⟨w.heap.size + 2, 1, Option.none⟩) (by simp) _).setCell (p := ⟨w.heap.size + 1, 0, Option.none⟩) (by simp) _).setCell (p := ⟨w.heap.size + 1, 1, Option.none⟩) (by simp) _,
    ((KeepsF.set _ _ (by simp) _).trans (KeepsF.set _ _ (by simp) _)).trans (KeepsF.set _ _ (by simp) _), by simp⟩
theorem blkLastP (v : World) (o : Obj) : (v.alloc o).heap[v.heap.size]? = some o := by show (v.heap.push o)[v.heap.size]? = _; simp
/-- Arrays that may be written over. -/
def AKV (w : World) (lo hi : Nat) (v : Value) (n : Nat) : Prop :=
  ∃ ao cap, v = .slice ao n cap ∧ (n = 0 ∨ ∃ g off, ao = some ⟨g, off, Option.none⟩ ∧ ∀ i, i < n → StrC w lo hi g (off + i * 2) ∧ IntC w lo hi g (off + i * 2 + 1))
theorem AKV.mk {w w' : World} {lo hi n : Nat} {v : Value} (h : AKV w lo hi v n) (m : Mk lo hi w w') : AKV w' lo hi v n := by
  obtain ⟨ao, cap, h1, h2⟩ := h
  refine ⟨ao, cap, h1, ?_⟩
  rcases h2 with h | ⟨g, off, e1, e4⟩
  · exact .inl h
  · exact .inr ⟨g, off, e1, fun i hi => ⟨(e4 i hi).1.mk m, (e4 i hi).2.mk m⟩⟩
theorem AKV.of {w : World} {lo : Nat} {v : Value} {ts : List AR} (h : AVF w lo v ts) : AKV w lo w.heap.size v ts.length := by
  obtain ⟨ao, cap, h1, h2⟩ := h
  refine ⟨ao, cap, h1, ?_⟩
  rcases h2 with h | ⟨g, off, e1, e2, e3, e4⟩
  · subst h; exact .inl rfl
  · refine .inr ⟨g, off, e1, fun i hi => ?_⟩
    have := e4 i _ (List.getElem?_eq_getElem hi)
    exact ⟨str_of this.1 e2, int_of this.2 e2⟩
theorem AKV.at {w : World} {lo hi n m c k : Nat} {a : Option Addr} (h : AKV w lo hi (.slice a m c) n) (hk : k < n) : ∃ g off, a = some ⟨g, off, Option.none⟩ ∧ StrC w lo hi g (off + k * 2) ∧ IntC w lo hi g (off + k * 2 + 1) := by
  obtain ⟨ao, cap, h1, h2⟩ := h
  injection h1 with h1
  subst h1
  rcases h2 with h | ⟨g, off, e1, e4⟩
  · omega
  · exact ⟨g, off, e1, e4 k hk⟩
end Go.Proofs.YtpinockfakndlaaGreat
/-
  What the laws of stores ask: what a store that is answered is.
-/
namespace Go.Proofs.YtpinockfakndlaaGreat
open Go.RowKit Go.Lib
set_option linter.unusedSimpArgs false
set_option linter.unusedVariables false

theorem totA_zrows (ts : List AR) : totA (zrows ts) ≤ 16 * ts.length := by
  induction ts with
  | nil => simp [zrows, totA]
  | cons t ts ih =>
    have := nz_len t.n
    simp only [zrows, List.map_cons, totA, List.length_cons] at ih ⊢
    omega
def SpecSto (w : World) (A : List (List Int)) (V O : List Int) (en : Int) (e : Ending) (w' : World) : Prop :=
  ∃ ua uv uo, e = .returned (.agg #[ua, uv, uo, .int .i64 en]) ∧ StoV w' ua uv uo A V O ∧ Below w.heap.size w w'
def OutSto (w : World) (A : List (List Int)) (V O : List Int) (en : Int) (e : Ending) (w' : World) : Prop :=
  ∃ ua uv uo rs, e = .returned (.agg #[ua, uv, uo, .int .i64 en]) ∧ rs.map (·.2) = A ∧ StoO w' w.heap.size ua rs (uv, V) (uo, O) ∧ Below w.heap.size w w'
theorem NewSto.out {w w' : World} {ts : List AR} {n : Nat} {e : Ending} (h : NewSto w ts n e w') : OutSto w (zrows ts) (List.replicate n 0) [] 0 e w' := by
  obtain ⟨ua, v, rs, h1, h2, h3, h4⟩ := h
  exact ⟨ua, v, _, rs, h1, h2, h3, h4⟩
theorem OutSto.spec {w w' : World} {A : List (List Int)} {V O : List Int} {en : Int} {e : Ending} (h : OutSto w A V O en e w') : SpecSto w A V O en e w' := by
  obtain ⟨ua, uv, uo, rs, h1, h2, h3, h4⟩ := h
  exact ⟨ua, uv, uo, h1, by have := h3.stoV; rw [h2] at this; exact this, h4⟩
end Go.Proofs.YtpinockfakndlaaGreat
