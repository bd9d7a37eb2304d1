/-
  Texts in one: MarkTree, MarkStmt, MarkProg, StoLaw.
-/
import Derived.Test.YtfoghiminlbdaaaGreatP05ofRun
import Derived.Test.YtfoghiminlbdaaaGreatP03ofRun
import Derived.Test.YtfoghiminlbdaaaGreatP02ofRun
import Derived.Test.YtfoghiminlbdaaaGreatP04ofRun
namespace Go.Proofs.YtfoghiminlbdaaaGreat
open Go.RowKit Go.Lib
set_option linter.unusedSimpArgs false
set_option linter.unusedVariables false
def likeV : Value → Value → Prop
  | .int .i64 _, u => ∃ n, u = .int .i64 n
  | .string _, u => ∃ s, u = .string s
  | v, u => u = v
theorem likeV.refl (v : Value) : likeV v v := by
  unfold likeV; split
  · exact ⟨_, rfl⟩
  · exact ⟨_, rfl⟩
  · rfl
theorem likeV.trans {a b c : Value} (h : likeV a b) (g : likeV b c) : likeV a c := by
  unfold likeV at h
  split at h
  · obtain ⟨n, rfl⟩ := h; exact g
  · obtain ⟨n, rfl⟩ := h; exact g
  · subst h; exact g
structure Mk (lo hi : Nat) (w w' : World) : Prop where
  gap : Gap lo hi w w'
  like : ∀ (a : Addr) v, w.cell? a = some v → ∃ u, w'.cell? a = some u ∧ likeV v u
  free : ∀ (a : Addr), (∃ v, w.cell? a = some v) → w.frozen? a = false → w'.frozen? a = false
theorem Mk.refl (lo hi : Nat) (w : World) : Mk lo hi w w := ⟨Gap.refl _ _ _, fun a v h => ⟨v, h, likeV.refl v⟩, fun _ _ h => h⟩
theorem Mk.trans {lo hi : Nat} {w w1 w2 : World} (h : Mk lo hi w w1) (g : Mk lo hi w1 w2) : Mk lo hi w w2 := by
  refine ⟨h.gap.trans g.gap, fun a v ha => ?_, fun a ⟨v, ha⟩ hf => ?_⟩
  · obtain ⟨u, hu, h1⟩ := h.like a v ha
    obtain ⟨x, hx, h2⟩ := g.like a u hu
    exact ⟨x, hx, h1.trans h2⟩
  · obtain ⟨u, hu, _⟩ := h.like a v ha
    exact g.free a ⟨u, hu⟩ (h.free a ⟨v, ha⟩ hf)
theorem Mk.of {lo hi : Nat} {w w' : World} (h : Below w.heap.size w w') : Mk lo hi w w' :=
  ⟨Gap.of _ _ h, fun a v ha => ⟨v, keeps h ha, likeV.refl v⟩, fun a ⟨v, ha⟩ hf => by
    have := h.block a.block (lt_of_cellA ha)
    unfold World.frozen? at hf ⊢
    simp only [this]; exact hf⟩
theorem Mk.int {lo hi : Nat} {w : World} {p : Addr} {n : Int} (hp : w.cell? p = some (.int .i64 n)) (h1 : lo ≤ p.block) (h2 : p.block < hi) (m : Int) : Mk lo hi w (w.setCell p (.int .i64 m)) := by
  refine ⟨⟨rfl, rfl, rfl, by simp, fun k hk hc => Below.heap_setCell _ _ _ _ (by omega)⟩, fun a v ha => ?_, fun a _ hf => by simpa using hf⟩
  by_cases e : a = p
  · subst e
    rw [hp] at ha; injection ha with ha; subst ha
    exact ⟨_, World.cell?_setCell_same _ _ _ hp, ⟨m, rfl⟩⟩
  · exact ⟨v, by rw [World.cell?_setCell_other _ _ _ _ (fun e' => e e'.symm)]; exact ha, likeV.refl v⟩
theorem Mk.str {lo hi : Nat} {w : World} {p : Addr} {s : ByteArray} (hp : w.cell? p = some (.string s)) (h1 : lo ≤ p.block) (h2 : p.block < hi) (t : ByteArray) : Mk lo hi w (w.setCell p (.string t)) := by
  refine ⟨⟨rfl, rfl, rfl, by simp, fun k hk hc => Below.heap_setCell _ _ _ _ (by omega)⟩, fun a v ha => ?_, fun a _ hf => by simpa using hf⟩
  by_cases e : a = p
  · subst e
    rw [hp] at ha; injection ha with ha; subst ha
    exact ⟨_, World.cell?_setCell_same _ _ _ hp, ⟨t, rfl⟩⟩
  · exact ⟨v, by rw [World.cell?_setCell_other _ _ _ _ (fun e' => e e'.symm)]; exact ha, likeV.refl v⟩
def IntC (w : World) (lo hi b o : Nat) : Prop := (lo ≤ b ∧ b < hi) ∧ w.frozen? ⟨b, o, Option.none⟩ = false ∧ ∃ n, w.cell? ⟨b, o, Option.none⟩ = some (.int .i64 n)
def StrC (w : World) (lo hi b o : Nat) : Prop := (lo ≤ b ∧ b < hi) ∧ w.frozen? ⟨b, o, Option.none⟩ = false ∧ ∃ n, w.cell? ⟨b, o, Option.none⟩ = some (.string n)
theorem IntC.mk {w w' : World} {lo hi b o : Nat} (h : IntC w lo hi b o) (m : Mk lo hi w w') : IntC w' lo hi b o := by
  obtain ⟨h1, h2, n, h3⟩ := h
  obtain ⟨u, hu, hl⟩ := m.like _ _ h3
  obtain ⟨k, rfl⟩ := hl
  exact ⟨h1, m.free _ ⟨_, h3⟩ h2, k, hu⟩
theorem StrC.mk {w w' : World} {lo hi b o : Nat} (h : StrC w lo hi b o) (m : Mk lo hi w w') : StrC w' lo hi b o := by
  obtain ⟨h1, h2, n, h3⟩ := h
  obtain ⟨u, hu, hl⟩ := m.like _ _ h3
  obtain ⟨k, rfl⟩ := hl
  exact ⟨h1, m.free _ ⟨_, h3⟩ h2, k, hu⟩
theorem slice_mk {w w' : World} {lo hi n c : Nat} {a : Addr} {p : Option Addr} (h : w.cell? a = some (.slice p n c)) (m : Mk lo hi w w') : w'.cell? a = some (.slice p n c) := by
  obtain ⟨u, hu, hl⟩ := m.like _ _ h
  have : u = .slice p n c := hl
  rw [← this]; exact hu
def EK (w : World) (lo hi : Nat) : EF → Nat → Nat → Prop
  | .nil, _, _ => True
  | .node _ _ h l r, b, o =>
    (IntC w lo hi b o ∧ IntC w lo hi b (o + 1) ∧ StrC w lo hi b (o + 2) ∧ ∃ b' o' a' c', w.cell? ⟨b, o + 3, Option.none⟩ = some (.slice a' (elen l) c') ∧ (a' = some ⟨b', o', Option.none⟩ ∨ l = .nil) ∧ EK w lo hi l b' o') ∧ EK w lo hi r b (o + 4)
def EKV (w : World) (lo hi : Nat) (F : EF) (v : Value) : Prop := ∃ b o a c, v = .slice a (elen F) c ∧ (a = some ⟨b, o, Option.none⟩ ∨ F = .nil) ∧ EK w lo hi F b o
theorem EK.mk {w w' : World} {lo hi : Nat} (m : Mk lo hi w w') : ∀ (F : EF) (b o : Nat), EK w lo hi F b o → EK w' lo hi F b o
  | .nil, _, _, _ => trivial
  | .node _ _ h l r, b, o, ⟨⟨h0, h1, h2, b', o', a', c', h3, e2, h4⟩, h5⟩ => ⟨⟨h0.mk m, h1.mk m, h2.mk m, b', o', a', c', slice_mk h3 m, e2, EK.mk m l b' o' h4⟩, EK.mk m r b _ h5⟩
theorem EKV.mk {w w' : World} {lo hi : Nat} {F : EF} {v : Value} (h : EKV w lo hi F v) (m : Mk lo hi w w') : EKV w' lo hi F v := by
  obtain ⟨b, o, a, c, h1, h2, h3⟩ := h
  exact ⟨b, o, a, c, h1, h2, EK.mk m F b o h3⟩
theorem int_of {w : World} {lo b o : Nat} {n : Int} (h : rdF w ⟨b, o, Option.none⟩ = some (.int .i64 n)) (hb : lo ≤ b) : IntC w lo w.heap.size b o := ⟨⟨hb, lt_of_cellA (rdF_iff.1 h).2⟩, (rdF_iff.1 h).1, n, (rdF_iff.1 h).2⟩
theorem str_of {w : World} {lo b o : Nat} {n : ByteArray} (h : rdF w ⟨b, o, Option.none⟩ = some (.string n)) (hb : lo ≤ b) : StrC w lo w.heap.size b o := ⟨⟨hb, lt_of_cellA (rdF_iff.1 h).2⟩, (rdF_iff.1 h).1, n, (rdF_iff.1 h).2⟩
theorem EK.of {w : World} {lo : Nat} : ∀ (F : EF) (b o : Nat), lo ≤ b → EInF w lo F b o → EK w lo w.heap.size F b o
  | .nil, _, _, _, _ => trivial
  | .node _ _ h l r, b, o, hb, ⟨⟨h0, h1, h2, v, h3, b', o', a', c', e1, e2, e3, h4⟩, h5⟩ =>
    ⟨⟨int_of h0 hb, int_of h1 hb, str_of h2 hb, b', o', a', c', by rw [← e1]; exact (rdF_iff.1 h3).2, e2, EK.of l b' o' e3 h4⟩, EK.of r b _ hb h5⟩
theorem EKV.of {w : World} {lo : Nat} {F : EF} {v : Value} (h : EVF w lo F v) : EKV w lo w.heap.size F v := by
  obtain ⟨b, o, a, c, h1, h2, h3, h4⟩ := h
  exact ⟨b, o, a, c, h1, h2, EK.of F b o h3 h4⟩
theorem markTextI (k : Int) (h1 : 1 ≤ k) (h2 : k ≤ 100000000) (w : World) : Calls Tryz.prog 117 #[.int .i64 k] w fun e w' => ∃ s, e = .returned (.string s) ∧ Below w.heap.size w w' := by
  obtain ⟨n, rfl⟩ : ∃ n : Nat, k = (n : Int) := ⟨k.toNat, by omega⟩
  refine (markText_is n (by omega) (by omega) w).mono ?_
  rintro e w' ⟨rfl, hb⟩
  exact ⟨_, rfl, hb⟩
theorem run_store1 {P : Program} (w : World) (b o : Nat) (ty : TypeId) (v : Value) (hc : v.cells = #[v]) (hv : v.oneCell' = true) (hs : ∃ u, w.cell? ⟨b, o, Option.none⟩ = some u) (hf : w.frozen? ⟨b, o, Option.none⟩ = false) (hi : (P.info? ty).map (·.size) = some 1) :
    (storeVar ty ⟨b, o, Option.none⟩ v).run P w = .ok () (w.setCell ⟨b, o, Option.none⟩ v) := by
  have := run_storeCells_cells (P := P) b o [v] 0 w (fun j hj => by simp at hj; subst hj; obtain ⟨u, hu⟩ := hs; simp [hu]) (fun j hj => by simp at hj; subst hj; simpa using hf) (fun x hx => by simp at hx; subst hx; exact hv)
  cases hq : P.info? ty with
  | none => simp [hq] at hi
  | some i =>
    have hs : i.size = 1 := by simpa [hq] using hi
    simp only [Nat.add_zero, World.setCells] at this
    simp [storeVar, sizeOf, typeInfo, hq, hc, hs, this]
theorem store_int {P : Program} {ops : Array Oper} {rest : List Oper} {op : Oper} {a : Act} {w : World} {Q : Exit → Act → World → Prop} {lo hi : Nat} (hgd : op.guard = none) (x y : Operand) (ty : TypeId) (ho : op.op = .store ty x y)
    (b o : Nat) (n : Int) (hx : a.eval x = .pointer (some ⟨b, o, Option.none⟩)) (hy : a.eval y = .int .i64 n) (hsz : (P.info? ty).map (·.size) = some 1) (hc : IntC w lo hi b o)
    (h : ∀ W, Mk lo hi w W → wpList P ops Q rest (a.put op.dst undef) W) : wpList P ops Q (op :: rest) a w := by
  obtain ⟨⟨h1, h2⟩, hf, n0, hc⟩ := hc
  refine wpList_plain hgd fun K hK => ?_
  unfold Oper.wp execOp
  simp only [ho, hx, hy, Instr.storeAt, Instr.sureAddr, Sem.run_bind, Sem.run_pure, Result.andThen_ok, run_store1 w b o ty (.int .i64 n) rfl rfl ⟨_, hc⟩ hf hsz]
  exact hK _ _ (h _ (Mk.int hc h1 h2 n))
theorem store_str {P : Program} {ops : Array Oper} {rest : List Oper} {op : Oper} {a : Act} {w : World} {Q : Exit → Act → World → Prop} {lo hi : Nat} (hgd : op.guard = none) (x y : Operand) (ty : TypeId) (ho : op.op = .store ty x y)
    (b o : Nat) (n : ByteArray) (hx : a.eval x = .pointer (some ⟨b, o, Option.none⟩)) (hy : a.eval y = .string n) (hsz : (P.info? ty).map (·.size) = some 1) (hc : StrC w lo hi b o)
    (h : ∀ W, Mk lo hi w W → wpList P ops Q rest (a.put op.dst undef) W) : wpList P ops Q (op :: rest) a w := by
  obtain ⟨⟨h1, h2⟩, hf, n0, hc⟩ := hc
  refine wpList_plain hgd fun K hK => ?_
  unfold Oper.wp execOp
  simp only [ho, hx, hy, Instr.storeAt, Instr.sureAddr, Sem.run_bind, Sem.run_pure, Result.andThen_ok, run_store1 w b o ty (.string n) rfl rfl ⟨_, hc⟩ hf hsz]
  exact hK _ _ (h _ (Mk.str hc h1 h2 n))
theorem sizeI1 : (Tryz.prog.info? 3).map (·.size) = some 1 := by kernel_rfl
theorem sizeT1 : (Tryz.prog.info? 9).map (·.size) = some 1 := by kernel_rfl
structure XK (w : World) (lo hi : Nat) (l : EF) (b o : Nat) (v : Value) : Prop where
  i0 : IntC w lo hi b o
  i1 : IntC w lo hi b (o + 1)
  s2 : StrC w lo hi b (o + 2)
  c3 : w.cell? ⟨b, o + 3, Option.none⟩ = some v
  ev : EKV w lo hi l v
theorem XK.on {w w' : World} {lo hi : Nat} {l : EF} {b o : Nat} {v : Value} (h : XK w lo hi l b o v) (m : Mk lo hi w w') : XK w' lo hi l b o v := by
  refine ⟨h.i0.mk m, h.i1.mk m, h.s2.mk m, ?_, h.ev.mk m⟩
  obtain ⟨b', o', a, c, rfl, _⟩ := h.ev
  exact slice_mk h.c3 m
theorem EK.open {w : World} {lo hi p q b o : Nat} {h : EH} {l r : EF} (hk : EK w lo hi (.node p q h l r) b o) : (∃ v, XK w lo hi l b o v) ∧ EK w lo hi r b (o + 4) := by
  obtain ⟨⟨h0, h1, h2, b', o', a', c', h3, e2, h4⟩, h5⟩ := hk
  exact ⟨⟨_, h0, h1, h2, h3, b', o', a', c', rfl, e2, h4⟩, h5⟩
theorem EKV.shape {w : World} {lo hi : Nat} {F : EF} {v : Value} (h : EKV w lo hi F v) : ∃ a c, v = .slice a (elen F) c := by obtain ⟨b, o, a, c, h1, _⟩ := h; exact ⟨a, c, h1⟩
set_option maxHeartbeats 2000000 in
set_option maxRecDepth 100000 in
theorem markExpS_step (lo hi : Nat) (F : EF)
    (ih : ∀ l : EF, enodes l < enodes F → ∀ (m : Int) (w : World) (v : Value), 1 ≤ m → m + 3 * (enodes l : Int) ≤ 20000000 → EKV w lo hi l v → Calls Tryz.prog 118 #[v, .int .i64 m] w fun e w' => ∃ r : Int, e = .returned (.int .i64 r) ∧ m ≤ r ∧ r ≤ m + 3 * (enodes l : Int) ∧ Mk lo hi w w')
    (m : Int) (w : World) (v : Value) (h1 : 1 ≤ m) (hm : m + 3 * (enodes F : Int) ≤ 20000000) (hv : EKV w lo hi F v) :
    Calls Tryz.prog 118 #[v, .int .i64 m] w fun e w' => ∃ r : Int, e = .returned (.int .i64 r) ∧ m ≤ r ∧ r ≤ m + 3 * (enodes F : Int) ∧ Mk lo hi w w' := by
  obtain ⟨b, o, ao, cap, rfl, hao, hin⟩ := hv
  have Hih := hid ih
  have hlenF := elen_le F
  clear ih
  go_enter Tryz.func118, Tryz.ntmps118
  go_wp2
  go_loopw [1, 5] (fun x i wr => ∃ (R : EF) (j : Nat) (c : Int), i = .int .i64 (j : Int) ∧ x = .int .i64 c ∧ Hid (j + elen R = elen F ∧ c + 3 * (enodes R : Int) ≤ m + 3 * (enodes F : Int) ∧ enodes R ≤ enodes F ∧ m ≤ c) ∧ Hid (EK wr lo hi R b (o + j * 4)) ∧ Hid (Mk lo hi w wr)) (fun _ i _ => elen F - (RowKit.intOf i).toNat)
  case atStart => exact ⟨F, 0, m, rfl, rfl, ⟨by omega, by omega, by omega, by omega⟩, (by show EK w lo hi F b (o + 0 * 4); simpa using hin), Mk.refl _ _ _⟩
  case round =>
    obtain ⟨R, j, c, rfl, rfl, hr, hek, MK⟩ := hrel
    obtain ⟨e1, e2, e3, e4⟩ := hr.out
    cases R with
    | nil =>
      have hk : ¬ (j : Int) < (elen F : Int) := by simp only [elen] at e1; omega
      simp only [enodes] at e2
      go_wp2
      go_ret
      exact ⟨_, rfl, e4, by omega, MK.out⟩
    | node p q h l r =>
      have hlt : (j : Int) < (elen F : Int) := by simp only [elen] at e1; omega
      have hne : ¬ F = .nil := by intro e; subst e; simp only [elen] at e1; omega
      obtain rfl : ao = some ⟨b, o, Option.none⟩ := hao.resolve_right hne
      obtain ⟨⟨u, hx⟩, hrr⟩ := EK.open hek.out
      simp only [enodes] at e2 e3
      have Hl := hid (Hih.out l (by omega))
      have He : Hid (j + 1 + elen r = elen F ∧ enodes r ≤ enodes F) := ⟨by simp only [elen] at e1; omega, by omega⟩
      have hcI : c + 3 + 3 * (enodes l : Int) + 3 * (enodes r : Int) ≤ m + 3 * (enodes F : Int) := by omega
      have SK := hid hx
      have RK := hid hrr
      clear hr e1 e2 e3 hin hne hao hek hx hrr
      go_wp2_with (refine store_int rfl _ _ 3 rfl b _ _ rfl rfl sizeI1 (by first | exact SK.out.i0 | exact SK.out.i1) ?_; intro W hW; have SK := hid (SK.out.on hW); have RK := hid (EK.mk hW _ _ _ RK.out); have MK := hid (MK.out.trans hW); clear hW)
      refine (markTextI (c + 1 + 1) (by omega) (by omega) _).mono ?_
      rintro e w4 ⟨t4, rfl, hb4⟩
      have m4 : Mk lo hi _ w4 := Mk.of hb4
      have SK := hid (SK.out.on m4)
      have RK := hid (EK.mk m4 _ _ _ RK.out)
      have MK := hid (MK.out.trans m4)
      clear hb4 m4
      go_wp2_with (refine store_str rfl _ _ 9 rfl b _ _ rfl rfl sizeT1 SK.out.s2 ?_; intro W5 hW; have SK := hid (SK.out.on hW); have RK := hid (EK.mk hW _ _ _ RK.out); have MK := hid (MK.out.trans hW); have c3 := SK.out.c3; clear hW)
      refine (Hl.out (c + 1 + 1 + 1) _ u (by omega) (by omega) SK.out.ev).mono ?_
      rintro e w6 ⟨r6, rfl, g1, g2, m6⟩
      have RK := hid (EK.mk m6 _ _ _ RK.out)
      have MK := hid (MK.out.trans m6)
      clear m6 SK c3
      go_wp2
      go_roundw
      case rel => exact ⟨r, j + 1, r6, by go_num, rfl, ⟨He.out.1, by omega, He.out.2, by omega⟩, (by rw [show o + (j + 1) * 4 = o + j * 4 + 4 by omega]; exact RK.out), MK.out⟩
      case measure => simp [RowKit.intOf]; omega
theorem markExpS_all (lo hi : Nat) : ∀ (n : Nat) (F : EF), enodes F < n → ∀ (m : Int) (w : World) (v : Value), 1 ≤ m → m + 3 * (enodes F : Int) ≤ 20000000 → EKV w lo hi F v → Calls Tryz.prog 118 #[v, .int .i64 m] w fun e w' => ∃ r : Int, e = .returned (.int .i64 r) ∧ m ≤ r ∧ r ≤ m + 3 * (enodes F : Int) ∧ Mk lo hi w w'
  | 0, _, h, _, _, _, _, _, _ => absurd h (by omega)
  | n + 1, F, h, m, w, v, h1, h2, hv => markExpS_step lo hi F (fun l hl m w v h1 h2 hv => markExpS_all lo hi n l (by omega) m w v h1 h2 hv) m w v h1 h2 hv
theorem markExpS_is (lo hi : Nat) (F : EF) (m : Int) (w : World) (v : Value) (h1 : 1 ≤ m) (h2 : m + 3 * (enodes F : Int) ≤ 20000000) (hv : EKV w lo hi F v) :
    Calls Tryz.prog 118 #[v, .int .i64 m] w fun e w' => ∃ r : Int, e = .returned (.int .i64 r) ∧ m ≤ r ∧ r ≤ m + 3 * (enodes F : Int) ∧ Mk lo hi w w' := markExpS_all lo hi _ F (Nat.lt_succ_self _) m w v h1 h2 hv
structure StK (w : World) (lo hi : Nat) (h : SH) (b o : Nat) (v1 v2 v3 v4 v : Value) (S : World → Prop) : Prop where
  i0 : IntC w lo hi b o
  s1 : StrC w lo hi b (o + 1)
  x1 : XK w lo hi h.x1.l b (o + 2) v1
  x2 : XK w lo hi h.x2.l b (o + 6) v2
  x3 : XK w lo hi h.x3.l b (o + 10) v3
  x4 : XK w lo hi h.x4.l b (o + 14) v4
  c18 : w.cell? ⟨b, o + 18, Option.none⟩ = some v
  sl : ∃ p n c, v = .slice p n c
  sv : S w
def SK (w : World) (lo hi : Nat) : SF → Nat → Nat → Prop
  | .nil, _, _ => True
  | .node _ _ h l r, b, o =>
    (∃ v1 v2 v3 v4 v, StK w lo hi h b o v1 v2 v3 v4 v (fun w => ∃ b' o' a' c', v = .slice a' (slen l) c' ∧ (a' = some ⟨b', o', Option.none⟩ ∨ l = .nil) ∧ SK w lo hi l b' o')) ∧ SK w lo hi r b (o + 19)
def SKV (w : World) (lo hi : Nat) (F : SF) (v : Value) : Prop := ∃ b o a c, v = .slice a (slen F) c ∧ (a = some ⟨b, o, Option.none⟩ ∨ F = .nil) ∧ SK w lo hi F b o
theorem StK.on' {w w' : World} {lo hi : Nat} {h : SH} {b o : Nat} {v1 v2 v3 v4 v : Value} {S : World → Prop} (k : StK w lo hi h b o v1 v2 v3 v4 v S) (m : Mk lo hi w w') (hs : S w → S w') : StK w' lo hi h b o v1 v2 v3 v4 v S := by
  obtain ⟨p, n, c, rfl⟩ := k.sl
  exact ⟨k.i0.mk m, k.s1.mk m, k.x1.on m, k.x2.on m, k.x3.on m, k.x4.on m, slice_mk k.c18 m, ⟨p, n, c, rfl⟩, hs k.sv⟩
theorem SK.mk {w w' : World} {lo hi : Nat} (m : Mk lo hi w w') : ∀ (F : SF) (b o : Nat), SK w lo hi F b o → SK w' lo hi F b o
  | .nil, _, _, _ => trivial
  | .node _ _ h l r, b, o, ⟨⟨v1, v2, v3, v4, v, k⟩, h5⟩ => ⟨⟨v1, v2, v3, v4, v, k.on' m (fun ⟨b', o', a', c', e1, e2, e3⟩ => ⟨b', o', a', c', e1, e2, SK.mk m l b' o' e3⟩)⟩, SK.mk m r b _ h5⟩
theorem SKV.mk {w w' : World} {lo hi : Nat} {F : SF} {v : Value} (h : SKV w lo hi F v) (m : Mk lo hi w w') : SKV w' lo hi F v := by
  obtain ⟨b, o, a, c, h1, h2, h3⟩ := h
  exact ⟨b, o, a, c, h1, h2, SK.mk m F b o h3⟩
abbrev StL (w : World) (lo hi : Nat) (h : SH) (l : SF) (b o : Nat) (v1 v2 v3 v4 v : Value) : Prop := StK w lo hi h b o v1 v2 v3 v4 v (fun w => SKV w lo hi l v)
theorem StK.on {w w' : World} {lo hi : Nat} {h : SH} {l : SF} {b o : Nat} {v1 v2 v3 v4 v : Value} (k : StL w lo hi h l b o v1 v2 v3 v4 v) (m : Mk lo hi w w') : StL w' lo hi h l b o v1 v2 v3 v4 v := k.on' m (fun s => s.mk m)
theorem SK.open {w : World} {lo hi p q b o : Nat} {h : SH} {l r : SF} (hk : SK w lo hi (.node p q h l r) b o) : (∃ v1 v2 v3 v4 v, StL w lo hi h l b o v1 v2 v3 v4 v) ∧ SK w lo hi r b (o + 19) := by
  obtain ⟨⟨v1, v2, v3, v4, v, k⟩, h5⟩ := hk
  exact ⟨⟨v1, v2, v3, v4, v, k.i0, k.s1, k.x1, k.x2, k.x3, k.x4, k.c18, k.sl, k.sv⟩, h5⟩
theorem XK.of {w : World} {lo b o : Nat} {x : X} (hb : lo ≤ b) (h : XCF w lo x b o) : ∃ v, XK w lo w.heap.size x.l b o v := by
  obtain ⟨h0, h1, h2, v, h3, h4⟩ := h
  exact ⟨v, int_of h0 hb, int_of h1 hb, str_of h2 hb, (rdF_iff.1 h3).2, EKV.of h4⟩
theorem SK.of {w : World} {lo : Nat} : ∀ (F : SF) (b o : Nat), lo ≤ b → SInF w lo F b o → SK w lo w.heap.size F b o
  | .nil, _, _, _, _ => trivial
  | .node _ _ h l r, b, o, hb, ⟨⟨h0, h1, h2, h3, h4, h5, v, h6, b', o', a', c', e1, e2, e3, h7⟩, h8⟩ => by
    obtain ⟨v1, k1⟩ := XK.of hb h2
    obtain ⟨v2, k2⟩ := XK.of hb h3
    obtain ⟨v3, k3⟩ := XK.of hb h4
    obtain ⟨v4, k4⟩ := XK.of hb h5
    exact ⟨⟨v1, v2, v3, v4, v, int_of h0 hb, str_of h1 hb, k1, k2, k3, k4, (rdF_iff.1 h6).2, ⟨_, _, _, e1⟩, b', o', a', c', e1, e2, SK.of l b' o' e3 h7⟩, SK.of r b _ hb h8⟩
theorem SKV.of {w : World} {lo : Nat} {F : SF} {v : Value} (h : SVF w lo F v) : SKV w lo w.heap.size F v := by
  obtain ⟨b, o, a, c, h1, h2, h3, h4⟩ := h
  exact ⟨b, o, a, c, h1, h2, SK.of F b o h3 h4⟩
def smk : SF → Nat
  | .nil => 0
  | .node _ _ h l r => 14 + 3 * (enodes h.x1.l + enodes h.x2.l + enodes h.x3.l + enodes h.x4.l) + smk l + smk r
theorem smk_le : ∀ F : SF, smk F ≤ 14 * ssize F
  | .nil => Nat.le_refl _
  | .node _ _ h l r => by
    have := smk_le l; have := smk_le r
    have := enodes_le h.x1.l; have := enodes_le h.x2.l; have := enodes_le h.x3.l; have := enodes_le h.x4.l
    simp only [smk, ssize, hsize, xsize]; omega
set_option maxHeartbeats 8000000 in
set_option maxRecDepth 100000 in
theorem markStmtS_step (lo hi : Nat) (F : SF)
    (ih : ∀ l : SF, snodes l < snodes F → ∀ (m : Int) (w : World) (v : Value), 1 ≤ m → m + (smk l : Int) ≤ 20000000 → SKV w lo hi l v → Calls Tryz.prog 64 #[v, .int .i64 m] w fun e w' => ∃ r : Int, e = .returned (.int .i64 r) ∧ m ≤ r ∧ r ≤ m + (smk l : Int) ∧ Mk lo hi w w')
    (m : Int) (w : World) (v : Value) (h1 : 1 ≤ m) (hm : m + (smk F : Int) ≤ 20000000) (hv : SKV w lo hi F v) :
    Calls Tryz.prog 64 #[v, .int .i64 m] w fun e w' => ∃ r : Int, e = .returned (.int .i64 r) ∧ m ≤ r ∧ r ≤ m + (smk F : Int) ∧ Mk lo hi w w' := by
  obtain ⟨b, o, ao, cap, rfl, hao, hin⟩ := hv
  have Hih := hid ih
  have hlenF : slen F ≤ 20000000 := by
    have h2 : ∀ G : SF, slen G ≤ smk G := fun G => by
      induction G with
      | nil => exact Nat.le_refl _
      | node _ _ h l r _ ihr => simp only [slen, smk]; omega
    have := h2 F; omega
  clear ih
  go_enter Tryz.func64, Tryz.ntmps64
  go_wp2
  go_loopw [1, 5] (fun x i wr => ∃ (R : SF) (j : Nat) (c : Int), i = .int .i64 (j : Int) ∧ x = .int .i64 c ∧ Hid (j + slen R = slen F ∧ c + (smk R : Int) ≤ m + (smk F : Int) ∧ snodes R ≤ snodes F ∧ m ≤ c) ∧ Hid (SK wr lo hi R b (o + j * 19)) ∧ Hid (Mk lo hi w wr)) (fun _ i _ => slen F - (RowKit.intOf i).toNat)
  case atStart => exact ⟨F, 0, m, rfl, rfl, ⟨by omega, by omega, by omega, by omega⟩, (by show SK w lo hi F b (o + 0 * 19); simpa using hin), Mk.refl _ _ _⟩
  case round =>
    obtain ⟨R, j, c, rfl, rfl, hr, hek, MK⟩ := hrel
    obtain ⟨e1, e2, e3, e4⟩ := hr.out
    cases R with
    | nil =>
      have hk : ¬ (j : Int) < (slen F : Int) := by simp only [slen] at e1; omega
      simp only [smk] at e2
      go_wp2
      go_ret
      exact ⟨_, rfl, e4, by omega, MK.out⟩
    | node p q h l r =>
      have hlt : (j : Int) < (slen F : Int) := by simp only [slen] at e1; omega
      have hne : ¬ F = .nil := by intro e; subst e; simp only [slen] at e1; omega
      obtain rfl : ao = some ⟨b, o, Option.none⟩ := hao.resolve_right hne
      obtain ⟨⟨v1, v2, v3, v4, u, hx⟩, hrr⟩ := SK.open hek.out
      simp only [snodes] at e3
      have Hl := hid (Hih.out l (by omega))
      have He : Hid (j + 1 + slen r = slen F ∧ snodes r ≤ snodes F) := ⟨by simp only [slen] at e1; omega, by omega⟩
      have hcI : c + 14 + 3 * (enodes h.x1.l : Int) + 3 * (enodes h.x2.l : Int) + 3 * (enodes h.x3.l : Int) + 3 * (enodes h.x4.l : Int) + (smk l : Int) + (smk r : Int) ≤ m + (smk F : Int) := by simp only [smk] at e2; omega
      have ST := hid hx
      have RK := hid hrr
      clear hr e1 e2 e3 hin hne hao hek hx hrr
      go_wp2_with (refine store_int rfl _ _ 3 rfl b _ _ rfl rfl sizeI1 ST.out.i0 ?_; intro W hW; have ST := hid (ST.out.on hW); have RK := hid (SK.mk hW _ _ _ RK.out); have MK := hid (MK.out.trans hW); clear hW)
      refine (markTextI (c + 1) (by omega) (by omega) _).mono ?_
      rintro e wt0 ⟨t0, rfl, hb⟩
      have hW : Mk lo hi _ wt0 := Mk.of hb
      have ST := hid (ST.out.on hW)
      have RK := hid (SK.mk hW _ _ _ RK.out)
      have MK := hid (MK.out.trans hW)
      clear hb hW
      go_wp2_with (first | (refine store_str rfl _ _ 9 rfl b _ _ rfl rfl sizeT1 ST.out.s1 ?_; intro W hW; have ST := hid (ST.out.on hW); have RK := hid (SK.mk hW _ _ _ RK.out); have MK := hid (MK.out.trans hW); clear hW) | (refine store_int rfl _ _ 3 rfl b _ _ rfl rfl sizeI1 ST.out.x1.i0 ?_; intro W hW; have ST := hid (ST.out.on hW); have RK := hid (SK.mk hW _ _ _ RK.out); have MK := hid (MK.out.trans hW); clear hW) | (refine store_int rfl _ _ 3 rfl b _ _ rfl rfl sizeI1 ST.out.x1.i1 ?_; intro W hW; have ST := hid (ST.out.on hW); have RK := hid (SK.mk hW _ _ _ RK.out); have MK := hid (MK.out.trans hW); clear hW))
      refine (markTextI (c + 1 + 1 + 1 + 1) (by omega) (by omega) _).mono ?_
      rintro e wt1 ⟨t1, rfl, hb⟩
      have hW : Mk lo hi _ wt1 := Mk.of hb
      have ST := hid (ST.out.on hW)
      have RK := hid (SK.mk hW _ _ _ RK.out)
      have MK := hid (MK.out.trans hW)
      clear hb hW
      have cc1 := ST.out.x1.c3
      go_wp2_with (first | (refine store_str rfl _ _ 9 rfl b _ _ rfl rfl sizeT1 ST.out.x1.s2 ?_; intro W hW; have ST := hid (ST.out.on hW); have RK := hid (SK.mk hW _ _ _ RK.out); have MK := hid (MK.out.trans hW); clear hW; have cc1 := ST.out.x1.c3))
      refine (markExpS_is lo hi _ (c + 1 + 1 + 1 + 1 + 1) _ v1 (by omega) (by omega) ST.out.x1.ev).mono ?_
      rintro e we1 ⟨r1, rfl, g1a, g1b, hW⟩
      have ST := hid (ST.out.on hW)
      have RK := hid (SK.mk hW _ _ _ RK.out)
      have MK := hid (MK.out.trans hW)
      clear hW cc1
      go_wp2_with (first | (refine store_int rfl _ _ 3 rfl b _ _ rfl rfl sizeI1 ST.out.x2.i0 ?_; intro W hW; have ST := hid (ST.out.on hW); have RK := hid (SK.mk hW _ _ _ RK.out); have MK := hid (MK.out.trans hW); clear hW) | (refine store_int rfl _ _ 3 rfl b _ _ rfl rfl sizeI1 ST.out.x2.i0 ?_; intro W hW; have ST := hid (ST.out.on hW); have RK := hid (SK.mk hW _ _ _ RK.out); have MK := hid (MK.out.trans hW); clear hW) | (refine store_int rfl _ _ 3 rfl b _ _ rfl rfl sizeI1 ST.out.x2.i1 ?_; intro W hW; have ST := hid (ST.out.on hW); have RK := hid (SK.mk hW _ _ _ RK.out); have MK := hid (MK.out.trans hW); clear hW))
      refine (markTextI (r1 + 1 + 1) (by omega) (by omega) _).mono ?_
      rintro e wt2 ⟨t2, rfl, hb⟩
      have hW : Mk lo hi _ wt2 := Mk.of hb
      have ST := hid (ST.out.on hW)
      have RK := hid (SK.mk hW _ _ _ RK.out)
      have MK := hid (MK.out.trans hW)
      clear hb hW
      have cc2 := ST.out.x2.c3
      go_wp2_with (first | (refine store_str rfl _ _ 9 rfl b _ _ rfl rfl sizeT1 ST.out.x2.s2 ?_; intro W hW; have ST := hid (ST.out.on hW); have RK := hid (SK.mk hW _ _ _ RK.out); have MK := hid (MK.out.trans hW); clear hW; have cc2 := ST.out.x2.c3))
      refine (markExpS_is lo hi _ (r1 + 1 + 1 + 1) _ v2 (by omega) (by omega) ST.out.x2.ev).mono ?_
      rintro e we2 ⟨r2, rfl, g2a, g2b, hW⟩
      have ST := hid (ST.out.on hW)
      have RK := hid (SK.mk hW _ _ _ RK.out)
      have MK := hid (MK.out.trans hW)
      clear hW cc2
      go_wp2_with (first | (refine store_int rfl _ _ 3 rfl b _ _ rfl rfl sizeI1 ST.out.x3.i0 ?_; intro W hW; have ST := hid (ST.out.on hW); have RK := hid (SK.mk hW _ _ _ RK.out); have MK := hid (MK.out.trans hW); clear hW) | (refine store_int rfl _ _ 3 rfl b _ _ rfl rfl sizeI1 ST.out.x3.i0 ?_; intro W hW; have ST := hid (ST.out.on hW); have RK := hid (SK.mk hW _ _ _ RK.out); have MK := hid (MK.out.trans hW); clear hW) | (refine store_int rfl _ _ 3 rfl b _ _ rfl rfl sizeI1 ST.out.x3.i1 ?_; intro W hW; have ST := hid (ST.out.on hW); have RK := hid (SK.mk hW _ _ _ RK.out); have MK := hid (MK.out.trans hW); clear hW))
      refine (markTextI (r2 + 1 + 1) (by omega) (by omega) _).mono ?_
      rintro e wt3 ⟨t3, rfl, hb⟩
      have hW : Mk lo hi _ wt3 := Mk.of hb
      have ST := hid (ST.out.on hW)
      have RK := hid (SK.mk hW _ _ _ RK.out)
      have MK := hid (MK.out.trans hW)
      clear hb hW
      have cc3 := ST.out.x3.c3
      go_wp2_with (first | (refine store_str rfl _ _ 9 rfl b _ _ rfl rfl sizeT1 ST.out.x3.s2 ?_; intro W hW; have ST := hid (ST.out.on hW); have RK := hid (SK.mk hW _ _ _ RK.out); have MK := hid (MK.out.trans hW); clear hW; have cc3 := ST.out.x3.c3))
      refine (markExpS_is lo hi _ (r2 + 1 + 1 + 1) _ v3 (by omega) (by omega) ST.out.x3.ev).mono ?_
      rintro e we3 ⟨r3, rfl, g3a, g3b, hW⟩
      have ST := hid (ST.out.on hW)
      have RK := hid (SK.mk hW _ _ _ RK.out)
      have MK := hid (MK.out.trans hW)
      clear hW cc3
      go_wp2_with (first | (refine store_int rfl _ _ 3 rfl b _ _ rfl rfl sizeI1 ST.out.x4.i0 ?_; intro W hW; have ST := hid (ST.out.on hW); have RK := hid (SK.mk hW _ _ _ RK.out); have MK := hid (MK.out.trans hW); clear hW) | (refine store_int rfl _ _ 3 rfl b _ _ rfl rfl sizeI1 ST.out.x4.i0 ?_; intro W hW; have ST := hid (ST.out.on hW); have RK := hid (SK.mk hW _ _ _ RK.out); have MK := hid (MK.out.trans hW); clear hW) | (refine store_int rfl _ _ 3 rfl b _ _ rfl rfl sizeI1 ST.out.x4.i1 ?_; intro W hW; have ST := hid (ST.out.on hW); have RK := hid (SK.mk hW _ _ _ RK.out); have MK := hid (MK.out.trans hW); clear hW))
      refine (markTextI (r3 + 1 + 1) (by omega) (by omega) _).mono ?_
      rintro e wt4 ⟨t4, rfl, hb⟩
      have hW : Mk lo hi _ wt4 := Mk.of hb
      have ST := hid (ST.out.on hW)
      have RK := hid (SK.mk hW _ _ _ RK.out)
      have MK := hid (MK.out.trans hW)
      clear hb hW
      have cc4 := ST.out.x4.c3
      go_wp2_with (first | (refine store_str rfl _ _ 9 rfl b _ _ rfl rfl sizeT1 ST.out.x4.s2 ?_; intro W hW; have ST := hid (ST.out.on hW); have RK := hid (SK.mk hW _ _ _ RK.out); have MK := hid (MK.out.trans hW); clear hW; have cc4 := ST.out.x4.c3))
      refine (markExpS_is lo hi _ (r3 + 1 + 1 + 1) _ v4 (by omega) (by omega) ST.out.x4.ev).mono ?_
      rintro e we4 ⟨r4, rfl, g4a, g4b, hW⟩
      have ST := hid (ST.out.on hW)
      have RK := hid (SK.mk hW _ _ _ RK.out)
      have MK := hid (MK.out.trans hW)
      clear hW cc4
      have c18 := ST.out.c18
      go_wp2_with fail
      refine (Hl.out r4 _ u (by omega) (by omega) ST.out.sv).mono ?_
      rintro e w6 ⟨r6, rfl, g1, g2, m6⟩
      have RK := hid (SK.mk m6 _ _ _ RK.out)
      have MK := hid (MK.out.trans m6)
      clear m6 ST c18
      go_wp2
      go_roundw
      case rel => exact ⟨r, j + 1, r6, by go_num, rfl, ⟨He.out.1, by omega, He.out.2, by omega⟩, (by rw [show o + (j + 1) * 19 = o + j * 19 + 19 by omega]; exact RK.out), MK.out⟩
      case measure => simp [RowKit.intOf]; omega
theorem markStmtS_all (lo hi : Nat) : ∀ (n : Nat) (F : SF), snodes F < n → ∀ (m : Int) (w : World) (v : Value), 1 ≤ m → m + (smk F : Int) ≤ 20000000 → SKV w lo hi F v → Calls Tryz.prog 64 #[v, .int .i64 m] w fun e w' => ∃ r : Int, e = .returned (.int .i64 r) ∧ m ≤ r ∧ r ≤ m + (smk F : Int) ∧ Mk lo hi w w'
  | 0, _, h, _, _, _, _, _, _ => absurd h (by omega)
  | n + 1, F, h, m, w, v, h1, h2, hv => markStmtS_step lo hi F (fun l hl m w v h1 h2 hv => markStmtS_all lo hi n l (by omega) m w v h1 h2 hv) m w v h1 h2 hv
theorem markStmtS_is (lo hi : Nat) (F : SF) (m : Int) (w : World) (v : Value) (h1 : 1 ≤ m) (h2 : m + (smk F : Int) ≤ 20000000) (hv : SKV w lo hi F v) :
    Calls Tryz.prog 64 #[v, .int .i64 m] w fun e w' => ∃ r : Int, e = .returned (.int .i64 r) ∧ m ≤ r ∧ r ≤ m + (smk F : Int) ∧ Mk lo hi w w' := markStmtS_all lo hi _ F (Nat.lt_succ_self _) m w v h1 h2 hv
def AVF (w : World) (lo : Nat) (v : Value) (ts : List AR) : Prop :=
  ∃ ao cap, v = .slice ao ts.length cap ∧ (ts = [] ∨ ∃ g off, ao = some ⟨g, off, Option.none⟩ ∧ lo ≤ g ∧ g < w.heap.size ∧ ∀ i t, ts[i]? = some t → rdF w ⟨g, off + i * 2, Option.none⟩ = some (.string t.s) ∧ rdF w ⟨g, off + i * 2 + 1, Option.none⟩ = some (.int .i64 t.n))
theorem AVF.plain {w : World} {lo : Nat} {v : Value} {ts : List AR} (h : AVF w lo v ts) : AV w lo v ts := by
  obtain ⟨ao, cap, h1, h2⟩ := h
  refine ⟨ao, cap, h1, ?_⟩
  rcases h2 with h | ⟨g, off, e1, e2, e3, e4⟩
  · exact .inl h
  · exact .inr ⟨g, off, e1, e2, e3, fun i t hi => ⟨(rdF_iff.1 (e4 i t hi).1).2, (rdF_iff.1 (e4 i t hi).2).2⟩⟩
theorem AVF.shape {w : World} {lo : Nat} {v : Value} {ts : List AR} (h : AVF w lo v ts) : ∃ a c, v = .slice a ts.length c := by obtain ⟨a, c, h1, _⟩ := h; exact ⟨a, c, h1⟩
theorem AVF.same {w w' : World} {lo lo' : Nat} {v : Value} {ts : List AR} (hlo : lo' ≤ lo) (h : AVF w lo v ts) (hk : KeepsF lo w w') (hz : w.heap.size ≤ w'.heap.size) : AVF w' lo' v ts := by
  obtain ⟨ao, cap, h1, h2⟩ := h
  refine ⟨ao, cap, h1, ?_⟩
  rcases h2 with h | ⟨g, off, e1, e2, e3, e4⟩
  · exact .inl h
  · exact .inr ⟨g, off, e1, Nat.le_trans hlo e2, Nat.lt_of_lt_of_le e3 hz, fun i t hi => ⟨hk _ _ e2 (e4 i t hi).1, hk _ _ e2 (e4 i t hi).2⟩⟩
theorem AVF.later {w w' : World} {lo : Nat} {v : Value} {ts : List AR} (h : AVF w lo v ts) (hb : Below w.heap.size w w') : AVF w' lo v ts := h.same (Nat.le_refl _) (KeepsF.later hb) hb.size
theorem AVF.laid {w : World} {g c : Nat} {ts : List AR} (hg : g < w.heap.size) (hr : w.rangeAt g 0 (acells ts)) (ht : w.there g 0 (ts.length * 2)) : AVF w g (.slice (some ⟨g, 0, Option.none⟩) ts.length c) ts := by
  have hf := rgF_of hr ht (by rw [acells_len]; exact Nat.le_refl _)
  exact ⟨_, c, rfl, .inr ⟨g, 0, rfl, Nat.le_refl _, hg, fun i t hi => ⟨hf _ _ (acells_get ts i t hi).1, by have := hf _ _ (acells_get ts i t hi).2; rwa [← Nat.add_assoc] at this⟩⟩⟩
theorem set3F {w w1 : World} {N : Nat} (hb : Below w.heap.size w w1) (hN : w.heap.size = N) (p x y : Value) : Below w.heap.size w (((w1.setCell ⟨N + 2, 1, Option.none⟩ p).setCell ⟨N + 1, 0, Option.none⟩ x).setCell ⟨N + 1, 1, Option.none⟩ y) ∧
    KeepsF (w.heap.size + 3) w1 (((w1.setCell ⟨N + 2, 1, Option.none⟩ p).setCell ⟨N + 1, 0, Option.none⟩ x).setCell ⟨N + 1, 1, Option.none⟩ y) ∧ w1.heap.size ≤ (((w1.setCell ⟨N + 2, 1, Option.none⟩ p).setCell ⟨N + 1, 0, Option.none⟩ x).setCell ⟨N + 1, 1, Option.none⟩ y).heap.size := by
  subst hN
  exact ⟨((hb.setCell (p := ⟨w.heap.size + 2, 1, Option.none⟩) (by simp) _).setCell (p := ⟨w.heap.size + 1, 0, Option.none⟩) (by simp) _).setCell (p := ⟨w.heap.size + 1, 1, Option.none⟩) (by simp) _,
    ((KeepsF.set _ _ (by simp) _).trans (KeepsF.set _ _ (by simp) _)).trans (KeepsF.set _ _ (by simp) _), by simp⟩
set_option maxHeartbeats 2000000 in
theorem toArrSF_is (ts : List AR) (hn : ts.length ≤ 1048576) (v : Value) (w : World) (hr : AV w 0 v ts) :
    Calls Tryz.prog 57 #[v] w fun e w' => ∃ v', e = .returned v' ∧ AVF w' w.heap.size v' ts ∧ Below w.heap.size w w' := by
  obtain ⟨ao, cap, rfl, hr⟩ := hr
  obtain ⟨i0, hi, hz0, hz1, hz2⟩ := info_parts infoIA
  go_enter Tryz.func57, Tryz.ntmps57
  go_wp2_with (refine wpList_make_full _ rfl _ _ 24 rfl w.heap.size 92 i0 _ 2 Tryz.underlying24 hi hz0 hz1 .i64 .i64 _ _ ts.length rfl rfl rfl rfl ?c1 ?c2 ?c3 ?_)
  case c1 => rw [hz2]; omega
  case c2 => unfold maxLen; omega
  case c3 => exact Nat.le_refl _
  intro w1 hown hgrow
  obtain ⟨cur, hcur, _, hcs, _⟩ := own_block hown
  have hbw : Below w.heap.size w w1 := (Below.refl _ w).grown hgrow (Nat.le_refl _) (fun k hk => by cases hk)
  have Hth : Hid (w1.there w.heap.size 0 (ts.length * 2)) := blk_there hcur (by omega)
  have hsz : w.heap.size < w1.heap.size := (Array.getElem?_eq_some_iff.1 hcur).1
  clear hown hgrow hcur hcs
  go_wp2
  go_loopw [4] (fun i wr => ∃ k : Nat, k ≤ ts.length ∧ i = .int .i64 k ∧ Hid (wr.there w.heap.size 0 (ts.length * 2) ∧ wr.rangeAt w.heap.size 0 (acells (ts.take k)) ∧ w.heap.size < wr.heap.size) ∧ Below w.heap.size w wr) (fun i _ => ts.length - (RowKit.intOf i).toNat)
  case atStart => exact ⟨0, by omega, rfl, ⟨Hth.out, (fun j v hv => by simp [acells] at hv), hsz⟩, hbw⟩
  case round =>
    obtain ⟨k, hk, rfl, hm, hb⟩ := hrel
    by_cases hlt : k < ts.length
    · have hltI : (k : Int) < (ts.length : Int) := by omega
      obtain ⟨t, ht⟩ : ∃ t, ts[k]? = some t := ⟨ts[k], List.getElem?_eq_getElem hlt⟩
      rcases hr with hr | ⟨g, off, rfl, _, gl, hc⟩
      · subst hr; simp at hlt
      obtain ⟨a0, a1⟩ := hc k t ht
      have A0 := (hb.cell (p := ⟨g, off + k * 2, Option.none⟩) gl).trans a0
      have A1 := (hb.cell (p := ⟨g, off + k * 2 + 1, Option.none⟩) gl).trans a1
      have htl : Hid ((acells (ts.take k)).length = k * 2) := show (acells (ts.take k)).length = k * 2 by rw [acells_len, List.length_take]; omega
      have Htk : Hid (acells (ts.take (k + 1)) = acells (ts.take k) ++ [.string t.s, .int .i64 t.n]) := show acells (ts.take (k + 1)) = _ by rw [take_snocA ht, acells_snoc]
      clear a0 a1 hc ht
      go_wp2_with fail
      refine (toArr_is t _).mono ?_
      rintro e w2 ⟨rfl, hb2⟩
      obtain ⟨t1, t2, t4⟩ := hm.out
      have t1' := there_later t1 hb2
      have hbw2 := hb.trans (hb2.mono hb.size)
      have ht4 : w2.there w.heap.size (k * 2) 2 := by have := there_part t1' (k * 2) 2 (by omega); rwa [Nat.zero_add] at this
      clear A0 A1
      go_wp2_with (refine wpList_store_mid rfl 92 _ _ rfl _ _ _ rfl rfl ?ht sizeIA (all2 _ _) ?_)
      case ht => exact ht4
      have n2 : (w2.setCells w.heap.size (k * 2) [.string t.s, .int .i64 t.n]).rangeAt w.heap.size 0 (acells (ts.take (k + 1))) := by
        rw [Htk.out]
        refine rangeAt_app (World.rangeAt_setCells_apart (rangeAt_later t2 hb2) w.heap.size (k * 2) [.string t.s, .int .i64 t.n] (.inr (.inl (by rw [htl.out]; omega)))) ?_
        rw [htl.out, Nat.zero_add]
        exact World.rangeAt_setCells_same _ _ _ _ ht4
      have n3 := World.there_setCells t1' w.heap.size (k * 2) [.string t.s, .int .i64 t.n]
      have n4 := below_sets [.string t.s, .int .i64 t.n] (k * 2) hbw2 (Nat.le_refl _)
      have n5 : w.heap.size < (w2.setCells w.heap.size (k * 2) [.string t.s, .int .i64 t.n]).heap.size := by rw [size_sets]; exact Nat.lt_of_lt_of_le t4 hb2.size
      have N := hid (And.intro n2 (And.intro n3 n5))
      clear t1 t2 t1' ht4 hb2 hbw2 n2 n3 n5 hm hb
      go_wp2
      go_roundw
      case rel => exact ⟨k + 1, by omega, by go_num, ⟨N.out.2.1, N.out.1, N.out.2.2⟩, n4⟩
      case measure => simp [RowKit.intOf]; omega
    · have hkk : ts.take k = ts := List.take_of_length_le (by omega)
      have hm2 := hm.out
      rw [hkk] at hm2
      have Hm := hid hm2
      clear hm2 hm
      go_wp2
      go_ret
      exact ⟨_, rfl, AVF.laid Hm.out.2.2 Hm.out.2.1 Hm.out.1, hb⟩
set_option maxHeartbeats 1000000 in
theorem toProgF_is (ts : List AR) (F : SF) (hn : ts.length ≤ 1048576) (hS : ssize F ≤ 1048576) (va vb : Value) (w : World) (ha : AV w 0 va ts) (hb : SV w 0 F vb) :
    Calls Tryz.prog 23 #[.agg #[va, vb]] w fun e w' => ∃ ua ub, e = .returned (.agg #[ua, ub]) ∧ AVF w' w.heap.size ua ts ∧ SVF w' w.heap.size F ub ∧ Below w.heap.size w w' := by
  have H := hid (And.intro ha hb)
  obtain ⟨a1, c1, rfl⟩ := ha.shape
  obtain ⟨a2, c2, rfl⟩ := hb.shape
  clear ha hb
  go_enter Tryz.func23, Tryz.ntmps23
  go_wp2_with fail
  have hb3 := ((alloc_below w (.cells #[.slice a1 ts.length c1, .slice a2 (slen F) c2] 53)).alloc (by simp) (.cells #[.slice Option.none 0 0, .slice Option.none 0 0] 27)).alloc (by simp; omega) (.cells #[.slice Option.none 0 0, .slice Option.none 0 0] 27)
  obtain ⟨q0, q1, q2⟩ := heap3 w (.cells #[.slice a1 ts.length c1, .slice a2 (slen F) c2] 53) (.cells #[.slice Option.none 0 0, .slice Option.none 0 0] 27) (.cells #[.slice Option.none 0 0, .slice Option.none 0 0] 27)
  refine (toArrSF_is ts hn _ _ (H.out.1.later hb3)).mono ?_
  rintro e w1 ⟨ua, rfl, hua, hb1⟩
  obtain ⟨x1, y1, rfl⟩ := hua.shape
  have r0 := (hb1.block _ (by simp only [World.size_alloc]; omega)).trans q0
  have r1 := (hb1.block _ (by simp)).trans q1
  have r2 := (hb1.block _ (by simp)).trans q2
  have B1 := hb3.trans (hb1.mono hb3.size)
  have hs1 := hb1.size
  simp only [World.size_alloc] at hs1 hua
  have t1 := blk2_set (.slice x1 ts.length y1) r2
  have t0 := there_keep (c := w.heap.size + 2) (by omega) r0 0 (.slice x1 ts.length y1)
  have t3 := there_keep (c := w.heap.size + 2) (by omega) r1 0 (.slice x1 ts.length y1)
  have B1' := B1.setCell (p := ⟨w.heap.size + 2, 0, Option.none⟩) (by simp) (.slice x1 ts.length y1)
  have hua' : AVF (w1.setCell ⟨w.heap.size + 2, 0, Option.none⟩ (.slice x1 ts.length y1)) (w.heap.size + 3) (.slice x1 ts.length y1) ts := hua.same (Nat.le_refl _) (KeepsF.set _ _ (by simp) _) (by simp)
  obtain ⟨⟨_, _⟩, f0, f1⟩ := blk2 r2
  obtain ⟨⟨_, d1⟩, _, _⟩ := blk2 t0
  obtain ⟨⟨g0, _⟩, _, _⟩ := blk2 r2
  have HA := hid hua'
  have HB := hid B1'
  have T := hid (And.intro t1 (And.intro t3 t0))
  clear hb1 hb3 hua hua' B1 B1' q0 q1 q2 r0 r1 r2 t0 t1 t3
  go_wp2_with fail
  refine (toStmtSF_is F hS _ _ (H.out.2.later HB.out)).mono ?_
  rintro e w2 ⟨ub, rfl, hub, hb2⟩
  obtain ⟨x2, y2, rfl⟩ := hub.shape
  have s1 := (hb2.block _ (by simp; omega)).trans T.out.1
  have s3 := (hb2.block _ (by simp; omega)).trans T.out.2.1
  have B2 := HB.out.trans (hb2.mono HB.out.size)
  have hs2 := hb2.size
  simp only [World.size_setCell] at hs2 hub
  obtain ⟨⟨c0, c1⟩, f0, f1⟩ := blk2 s1
  obtain ⟨⟨e0, e1⟩, k0, k1⟩ := blk2 s3
  have A2 := hid (HA.out.later hb2)
  have B2' := hid B2
  have S2 := hid hub
  clear hb2 s1 s3 hub HA HB T B2
  go_wp2
  obtain ⟨hB, hK, hZ⟩ := set3F B2'.out rfl (.slice x2 (slen F) y2) (.slice x1 ts.length y1) (.slice x2 (slen F) y2)
  refine bodyPost_ret (v := .agg #[.slice x1 ts.length y1, .slice x2 (slen F) y2]) (by simp [results, Tryz.results23, go_sem, e0, e1]) rfl ⟨_, _, rfl, A2.out.same (by omega) (fun a v hl hc => hK a v hl hc) hZ, S2.out.same (by omega) (fun a v hl hc => hK a v (by omega) hc), hB⟩
theorem blkLastP (v : World) (o : Obj) : (v.alloc o).heap[v.heap.size]? = some o := by show (v.heap.push o)[v.heap.size]? = _; simp
def AKV (w : World) (lo hi : Nat) (v : Value) (n : Nat) : Prop :=
  ∃ ao cap, v = .slice ao n cap ∧ (n = 0 ∨ ∃ g off, ao = some ⟨g, off, Option.none⟩ ∧ ∀ i, i < n → StrC w lo hi g (off + i * 2) ∧ IntC w lo hi g (off + i * 2 + 1))
theorem AKV.mk {w w' : World} {lo hi n : Nat} {v : Value} (h : AKV w lo hi v n) (m : Mk lo hi w w') : AKV w' lo hi v n := by
  obtain ⟨ao, cap, h1, h2⟩ := h
  refine ⟨ao, cap, h1, ?_⟩
  rcases h2 with h | ⟨g, off, e1, e4⟩
  · exact .inl h
  · exact .inr ⟨g, off, e1, fun i hi => ⟨(e4 i hi).1.mk m, (e4 i hi).2.mk m⟩⟩
theorem AKV.of {w : World} {lo : Nat} {v : Value} {ts : List AR} (h : AVF w lo v ts) : AKV w lo w.heap.size v ts.length := by
  obtain ⟨ao, cap, h1, h2⟩ := h
  refine ⟨ao, cap, h1, ?_⟩
  rcases h2 with h | ⟨g, off, e1, e2, e3, e4⟩
  · subst h; exact .inl rfl
  · refine .inr ⟨g, off, e1, fun i hi => ?_⟩
    have := e4 i _ (List.getElem?_eq_getElem hi)
    exact ⟨str_of this.1 e2, int_of this.2 e2⟩
theorem AKV.at {w : World} {lo hi n m c k : Nat} {a : Option Addr} (h : AKV w lo hi (.slice a m c) n) (hk : k < n) : ∃ g off, a = some ⟨g, off, Option.none⟩ ∧ StrC w lo hi g (off + k * 2) ∧ IntC w lo hi g (off + k * 2 + 1) := by
  obtain ⟨ao, cap, h1, h2⟩ := h
  injection h1 with h1
  subst h1
  rcases h2 with h | ⟨g, off, e1, e4⟩
  · omega
  · exact ⟨g, off, e1, e4 k hk⟩
set_option maxHeartbeats 2000000 in
set_option maxRecDepth 100000 in
theorem markArrS_is (lo hi n : Nat) (m : Int) (w : World) (v : Value) (h1 : 1 ≤ m) (hm : m + 2 * (n : Int) ≤ 20000000) (hv : AKV w lo hi v n) :
    Calls Tryz.prog 63 #[v, .int .i64 m] w fun e w' => e = .returned (.int .i64 (m + 2 * (n : Int))) ∧ Mk lo hi w w' := by
  have HV := hid hv
  obtain ⟨ao, cap, rfl, _⟩ := hv
  go_enter Tryz.func63, Tryz.ntmps63
  go_wp2
  go_loopw [1, 5] (fun x i wr => ∃ (k : Nat), k ≤ n ∧ i = .int .i64 (k : Int) ∧ x = .int .i64 (m + 2 * (k : Int)) ∧ Hid (Mk lo hi w wr)) (fun _ i _ => n - (RowKit.intOf i).toNat)
  case atStart => exact ⟨0, by omega, rfl, by simp, Mk.refl _ _ _⟩
  case round =>
    obtain ⟨k, hk, rfl, rfl, MK⟩ := hrel
    by_cases hlt : k < n
    · have hltI : (k : Int) < (n : Int) := by omega
      obtain ⟨g, off, rfl, hs, hi0⟩ := (HV.out.mk MK.out).at hlt
      have SC := hid hs
      have IC := hid hi0
      obtain ⟨c, hc⟩ : ∃ c, c = m + 2 * (k : Int) := ⟨_, rfl⟩
      rw [← hc]
      have hc1 : 1 ≤ c := by omega
      have hc2 : c + 2 ≤ 20000000 := by omega
      have HC := hid hc
      clear hs hi0 hc
      go_wp2_with fail
      refine (markTextI c (by omega) (by omega) _).mono ?_
      rintro e w4 ⟨t4, rfl, hb4⟩
      have m4 : Mk lo hi _ w4 := Mk.of hb4
      have SC := hid (SC.out.mk m4)
      have IC := hid (IC.out.mk m4)
      have MK := hid (MK.out.trans m4)
      clear hb4 m4
      go_wp2_with (first | (refine store_str rfl _ _ 9 rfl g _ _ rfl rfl sizeT1 SC.out ?_; intro W hW; have IC := hid (IC.out.mk hW); have MK := hid (MK.out.trans hW); clear hW) | (refine store_int rfl _ _ 3 rfl g _ _ rfl rfl sizeI1 IC.out ?_; intro W hW; have MK := hid (MK.out.trans hW); clear hW))
      go_roundw
      case rel => exact ⟨k + 1, by omega, by go_num, val_intA (by have := HC.out; omega), MK.out⟩
      case measure => simp [RowKit.intOf]; omega
    · obtain rfl : k = n := by omega
      go_wp2
      go_ret
      exact ⟨rfl, MK.out⟩
set_option maxHeartbeats 1000000 in
set_option maxRecDepth 100000 in
theorem markProg_is (lo hi n : Nat) (F : SF) (w : World) (va vb : Value) (hm : 1 + 2 * (n : Int) + (smk F : Int) ≤ 20000000) (ha : AKV w lo hi va n) (hb : SKV w lo hi F vb) :
    Calls Tryz.prog 26 #[.agg #[va, vb], .int .i64 1] w fun e w' => ∃ r : Int, e = .returned (.int .i64 r) ∧ 1 ≤ r ∧ Mk lo hi w w' := by
  have HA := hid (And.intro ha hb)
  obtain ⟨a1, c1, e1, _⟩ := ha
  subst e1
  obtain ⟨a2, c2, e2⟩ : ∃ a c, vb = .slice a (slen F) c := by obtain ⟨b, o, a, c, h1, _⟩ := hb; exact ⟨a, c, h1⟩
  subst e2
  have M0 : Hid (Mk lo hi w (w.alloc (.cells #[.slice a1 n c1, .slice a2 (slen F) c2] 27))) := Mk.of (alloc_below _ _)
  have hN := blkLastP w (.cells #[.slice a1 n c1, .slice a2 (slen F) c2] 27)
  obtain ⟨⟨x0, x1⟩, _⟩ := blk2 hN
  have X1 := hid x1
  clear hb hN x0 x1
  go_enter Tryz.func26, Tryz.ntmps26
  go_wp2_with fail
  refine (markArrS_is lo hi n 1 _ _ (by omega) (by omega) (HA.out.1.mk M0.out)).mono ?_
  rintro e w1 ⟨rfl, m1⟩
  have x1 := slice_mk X1.out m1
  have M1 := hid (M0.out.trans m1)
  clear m1 M0 X1
  go_wp2_with fail
  refine (markStmtS_is lo hi F (1 + 2 * (n : Int)) _ _ (by omega) (by omega) (HA.out.2.mk M1.out)).mono ?_
  rintro e w2 ⟨r, rfl, g1, g2, m2⟩
  have M2 := hid (M1.out.trans m2)
  clear m2 x1 M1
  go_wp2
  go_ret
  exact ⟨r, rfl, by omega, M2.out⟩
theorem totA_zrows (ts : List AR) : totA (zrows ts) ≤ 16 * ts.length := by
  induction ts with
  | nil => simp [zrows, totA]
  | cons t ts ih =>
    have := nz_len t.n
    simp only [zrows, List.map_cons, totA, List.length_cons] at ih ⊢
    omega
def SpecSto (w : World) (A : List (List Int)) (V O : List Int) (en : Int) (e : Ending) (w' : World) : Prop :=
  ∃ ua uv uo, e = .returned (.agg #[ua, uv, uo, .int .i64 en]) ∧ StoV w' ua uv uo A V O ∧ Below w.heap.size w w'
def OutSto (w : World) (A : List (List Int)) (V O : List Int) (en : Int) (e : Ending) (w' : World) : Prop :=
  ∃ ua uv uo rs, e = .returned (.agg #[ua, uv, uo, .int .i64 en]) ∧ rs.map (·.2) = A ∧ StoO w' w.heap.size ua rs (uv, V) (uo, O) ∧ Below w.heap.size w w'
theorem NewSto.out {w w' : World} {ts : List AR} {n : Nat} {e : Ending} (h : NewSto w ts n e w') : OutSto w (zrows ts) (List.replicate n 0) [] 0 e w' := by
  obtain ⟨ua, v, rs, h1, h2, h3, h4⟩ := h
  exact ⟨ua, v, _, rs, h1, h2, h3, h4⟩
end Go.Proofs.YtfoghiminlbdaaaGreat
