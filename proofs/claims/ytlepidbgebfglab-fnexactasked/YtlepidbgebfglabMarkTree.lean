/-
  The contracts of markExpS and markStmtS: every number and every text of a tree is written over, nothing else.
-/
import Derived.Test.YtlepidbgebfglabMarkText
import Derived.Test.YtlepidbgebfglabAstVis
import Derived.Test.YtlepidbgebfglabMarkTo
namespace Go.Proofs.Ytlepidbgebfglab
open Go.RowKit Go.Lib
set_option linter.unusedSimpArgs false
set_option linter.unusedVariables false

/-- A number stays a number, a text a text, all else as it is. -/
def likeV : Value → Value → Prop
  | .int .i64 _, u => ∃ n, u = .int .i64 n
  | .string _, u => ∃ s, u = .string s
  | v, u => u = v
theorem likeV.refl (v : Value) : likeV v v := by
  unfold likeV; split
  · exact ⟨_, rfl⟩
  · exact ⟨_, rfl⟩
  · rfl
theorem likeV.trans {a b c : Value} (h : likeV a b) (g : likeV b c) : likeV a c := by
  unfold likeV at h
  split at h
  · obtain ⟨n, rfl⟩ := h; exact g
  · obtain ⟨n, rfl⟩ := h; exact g
  · subst h; exact g
/-- What marking does to memory: only blocks from lo up to hi turn, numbers and texts alone, and nothing is frozen or thawed. -/
structure Mk (lo hi : Nat) (w w' : World) : Prop where
  gap : Gap lo hi w w'
  like : ∀ (a : Addr) v, w.cell? a = some v → ∃ u, w'.cell? a = some u ∧ likeV v u
  free : ∀ (a : Addr), (∃ v, w.cell? a = some v) → w.frozen? a = false → w'.frozen? a = false
theorem Mk.refl (lo hi : Nat) (w : World) : Mk lo hi w w := ⟨Gap.refl _ _ _, fun a v h => ⟨v, h, likeV.refl v⟩, fun _ _ h => h⟩
theorem Mk.trans {lo hi : Nat} {w w1 w2 : World} (h : Mk lo hi w w1) (g : Mk lo hi w1 w2) : Mk lo hi w w2 := by
  refine ⟨h.gap.trans g.gap, fun a v ha => ?_, fun a ⟨v, ha⟩ hf => ?_⟩
  · obtain ⟨u, hu, h1⟩ := h.like a v ha
    obtain ⟨x, hx, h2⟩ := g.like a u hu
    exact ⟨x, hx, h1.trans h2⟩
  · obtain ⟨u, hu, _⟩ := h.like a v ha
    exact g.free a ⟨u, hu⟩ (h.free a ⟨v, ha⟩ hf)
theorem Mk.of {lo hi : Nat} {w w' : World} (h : Below w.heap.size w w') : Mk lo hi w w' :=
  ⟨Gap.of _ _ h, fun a v ha => ⟨v, keeps h ha, likeV.refl v⟩, fun a ⟨v, ha⟩ hf => by
    have := h.block a.block (lt_of_cellA ha)
    unfold World.frozen? at hf ⊢
    simp only [this]; exact hf⟩
theorem Mk.int {lo hi : Nat} {w : World} {p : Addr} {n : Int} (hp : w.cell? p = some (.int .i64 n)) (h1 : lo ≤ p.block) (h2 : p.block < hi) (m : Int) : Mk lo hi w (w.setCell p (.int .i64 m)) := by
  refine ⟨⟨rfl, rfl, rfl, by simp, fun k hk hc => Below.heap_setCell _ _ _ _ (by omega)⟩, fun a v ha => ?_, fun a _ hf => by simpa using hf⟩
  by_cases e : a = p
  · subst e
    rw [hp] at ha; injection ha with ha; subst ha
    exact ⟨_, World.cell?_setCell_same _ _ _ hp, ⟨m, rfl⟩⟩
  · exact ⟨v, by rw [World.cell?_setCell_other _ _ _ _ (fun e' => e e'.symm)]; exact ha, likeV.refl v⟩
theorem Mk.str {lo hi : Nat} {w : World} {p : Addr} {s : ByteArray} (hp : w.cell? p = some (.string s)) (h1 : lo ≤ p.block) (h2 : p.block < hi) (t : ByteArray) : Mk lo hi w (w.setCell p (.string t)) := by
  refine ⟨⟨rfl, rfl, rfl, by simp, fun k hk hc => Below.heap_setCell _ _ _ _ (by omega)⟩, fun a v ha => ?_, fun a _ hf => by simpa using hf⟩
  by_cases e : a = p
  · subst e
    rw [hp] at ha; injection ha with ha; subst ha
    exact ⟨_, World.cell?_setCell_same _ _ _ hp, ⟨t, rfl⟩⟩
  · exact ⟨v, by rw [World.cell?_setCell_other _ _ _ _ (fun e' => e e'.symm)]; exact ha, likeV.refl v⟩
/-- A number, a text that may be written over, in a block from lo up to hi. -/
def IntC (w : World) (lo hi b o : Nat) : Prop := (lo ≤ b ∧ b < hi) ∧ w.frozen? ⟨b, o, Option.none⟩ = false ∧ ∃ n, w.cell? ⟨b, o, Option.none⟩ = some (.int .i64 n)
def StrC (w : World) (lo hi b o : Nat) : Prop := (lo ≤ b ∧ b < hi) ∧ w.frozen? ⟨b, o, Option.none⟩ = false ∧ ∃ n, w.cell? ⟨b, o, Option.none⟩ = some (.string n)
theorem IntC.mk {w w' : World} {lo hi b o : Nat} (h : IntC w lo hi b o) (m : Mk lo hi w w') : IntC w' lo hi b o := by
  obtain ⟨h1, h2, n, h3⟩ := h
  obtain ⟨u, hu, hl⟩ := m.like _ _ h3
  obtain ⟨k, rfl⟩ := hl
  exact ⟨h1, m.free _ ⟨_, h3⟩ h2, k, hu⟩
theorem StrC.mk {w w' : World} {lo hi b o : Nat} (h : StrC w lo hi b o) (m : Mk lo hi w w') : StrC w' lo hi b o := by
  obtain ⟨h1, h2, n, h3⟩ := h
  obtain ⟨u, hu, hl⟩ := m.like _ _ h3
  obtain ⟨k, rfl⟩ := hl
  exact ⟨h1, m.free _ ⟨_, h3⟩ h2, k, hu⟩
theorem slice_mk {w w' : World} {lo hi n c : Nat} {a : Addr} {p : Option Addr} (h : w.cell? a = some (.slice p n c)) (m : Mk lo hi w w') : w'.cell? a = some (.slice p n c) := by
  obtain ⟨u, hu, hl⟩ := m.like _ _ h
  have : u = .slice p n c := hl
  rw [← this]; exact hu
/-- A tree that may be written over, whatever its numbers and texts are. -/
def EK (w : World) (lo hi : Nat) : EF → Nat → Nat → Prop
  | .nil, _, _ => True
  | .node _ _ h l r, b, o =>
    (IntC w lo hi b o ∧ IntC w lo hi b (o + 1) ∧ StrC w lo hi b (o + 2) ∧ ∃ b' o' a' c', w.cell? ⟨b, o + 3, Option.none⟩ = some (.slice a' (elen l) c') ∧ (a' = some ⟨b', o', Option.none⟩ ∨ l = .nil) ∧ EK w lo hi l b' o') ∧ EK w lo hi r b (o + 4)
def EKV (w : World) (lo hi : Nat) (F : EF) (v : Value) : Prop := ∃ b o a c, v = .slice a (elen F) c ∧ (a = some ⟨b, o, Option.none⟩ ∨ F = .nil) ∧ EK w lo hi F b o
theorem EK.mk {w w' : World} {lo hi : Nat} (m : Mk lo hi w w') : ∀ (F : EF) (b o : Nat), EK w lo hi F b o → EK w' lo hi F b o
  | .nil, _, _, _ => trivial
  | .node _ _ h l r, b, o, ⟨⟨h0, h1, h2, b', o', a', c', h3, e2, h4⟩, h5⟩ => ⟨⟨h0.mk m, h1.mk m, h2.mk m, b', o', a', c', slice_mk h3 m, e2, EK.mk m l b' o' h4⟩, EK.mk m r b _ h5⟩
theorem EKV.mk {w w' : World} {lo hi : Nat} {F : EF} {v : Value} (h : EKV w lo hi F v) (m : Mk lo hi w w') : EKV w' lo hi F v := by
  obtain ⟨b, o, a, c, h1, h2, h3⟩ := h
  exact ⟨b, o, a, c, h1, h2, EK.mk m F b o h3⟩
theorem int_of {w : World} {lo b o : Nat} {n : Int} (h : rdF w ⟨b, o, Option.none⟩ = some (.int .i64 n)) (hb : lo ≤ b) : IntC w lo w.heap.size b o := ⟨⟨hb, lt_of_cellA (rdF_iff.1 h).2⟩, (rdF_iff.1 h).1, n, (rdF_iff.1 h).2⟩
theorem str_of {w : World} {lo b o : Nat} {n : ByteArray} (h : rdF w ⟨b, o, Option.none⟩ = some (.string n)) (hb : lo ≤ b) : StrC w lo w.heap.size b o := ⟨⟨hb, lt_of_cellA (rdF_iff.1 h).2⟩, (rdF_iff.1 h).1, n, (rdF_iff.1 h).2⟩
theorem EK.of {w : World} {lo : Nat} : ∀ (F : EF) (b o : Nat), lo ≤ b → EInF w lo F b o → EK w lo w.heap.size F b o
  | .nil, _, _, _, _ => trivial
  | .node _ _ h l r, b, o, hb, ⟨⟨h0, h1, h2, v, h3, b', o', a', c', e1, e2, e3, h4⟩, h5⟩ =>
    ⟨⟨int_of h0 hb, int_of h1 hb, str_of h2 hb, b', o', a', c', by rw [← e1]; exact (rdF_iff.1 h3).2, e2, EK.of l b' o' e3 h4⟩, EK.of r b _ hb h5⟩
theorem EKV.of {w : World} {lo : Nat} {F : EF} {v : Value} (h : EVF w lo F v) : EKV w lo w.heap.size F v := by
  obtain ⟨b, o, a, c, h1, h2, h3, h4⟩ := h
  exact ⟨b, o, a, c, h1, h2, EK.of F b o h3 h4⟩
theorem markTextI (k : Int) (h1 : 1 ≤ k) (h2 : k ≤ 100000000) (w : World) : Calls Try.prog 24 #[.int .i64 k] w fun e w' => ∃ s, e = .returned (.string s) ∧ Below w.heap.size w w' := by
  obtain ⟨n, rfl⟩ : ∃ n : Nat, k = (n : Int) := ⟨k.toNat, by omega⟩
  refine (markText_is n (by omega) (by omega) w).mono ?_
  rintro e w' ⟨rfl, hb⟩
  exact ⟨_, rfl, hb⟩
theorem run_store1 {P : Program} (w : World) (b o : Nat) (ty : TypeId) (v : Value) (hc : v.cells = #[v]) (hv : v.oneCell' = true) (hs : ∃ u, w.cell? ⟨b, o, Option.none⟩ = some u) (hf : w.frozen? ⟨b, o, Option.none⟩ = false) (hi : (P.info? ty).map (·.size) = some 1) :
    (storeVar ty ⟨b, o, Option.none⟩ v).run P w = .ok () (w.setCell ⟨b, o, Option.none⟩ v) := by
  have := run_storeCells_cells (P := P) b o [v] 0 w (fun j hj => by simp at hj; subst hj; obtain ⟨u, hu⟩ := hs; simp [hu]) (fun j hj => by simp at hj; subst hj; simpa using hf) (fun x hx => by simp at hx; subst hx; exact hv)
  cases hq : P.info? ty with
  | none => simp [hq] at hi
  | some i =>
    have hs : i.size = 1 := by simpa [hq] using hi
    simp only [Nat.add_zero, World.setCells] at this
    simp [storeVar, sizeOf, typeInfo, hq, hc, hs, this]
theorem store_int {P : Program} {ops : Array Oper} {rest : List Oper} {op : Oper} {a : Act} {w : World} {Q : Exit → Act → World → Prop} {lo hi : Nat} (hgd : op.guard = none) (x y : Operand) (ty : TypeId) (ho : op.op = .store ty x y)
    (b o : Nat) (n : Int) (hx : a.eval x = .pointer (some ⟨b, o, Option.none⟩)) (hy : a.eval y = .int .i64 n) (hsz : (P.info? ty).map (·.size) = some 1) (hc : IntC w lo hi b o)
    (h : ∀ W, Mk lo hi w W → wpList P ops Q rest (a.put op.dst undef) W) : wpList P ops Q (op :: rest) a w := by
  obtain ⟨⟨h1, h2⟩, hf, n0, hc⟩ := hc
  refine wpList_plain hgd fun K hK => ?_
  unfold Oper.wp execOp
  simp only [ho, hx, hy, Instr.storeAt, Instr.sureAddr, Sem.run_bind, Sem.run_pure, Result.andThen_ok, run_store1 w b o ty (.int .i64 n) rfl rfl ⟨_, hc⟩ hf hsz]
  exact hK _ _ (h _ (Mk.int hc h1 h2 n))
theorem store_str {P : Program} {ops : Array Oper} {rest : List Oper} {op : Oper} {a : Act} {w : World} {Q : Exit → Act → World → Prop} {lo hi : Nat} (hgd : op.guard = none) (x y : Operand) (ty : TypeId) (ho : op.op = .store ty x y)
    (b o : Nat) (n : ByteArray) (hx : a.eval x = .pointer (some ⟨b, o, Option.none⟩)) (hy : a.eval y = .string n) (hsz : (P.info? ty).map (·.size) = some 1) (hc : StrC w lo hi b o)
    (h : ∀ W, Mk lo hi w W → wpList P ops Q rest (a.put op.dst undef) W) : wpList P ops Q (op :: rest) a w := by
  obtain ⟨⟨h1, h2⟩, hf, n0, hc⟩ := hc
  refine wpList_plain hgd fun K hK => ?_
  unfold Oper.wp execOp
  simp only [ho, hx, hy, Instr.storeAt, Instr.sureAddr, Sem.run_bind, Sem.run_pure, Result.andThen_ok, run_store1 w b o ty (.string n) rfl rfl ⟨_, hc⟩ hf hsz]
  exact hK _ _ (h _ (Mk.str hc h1 h2 n))
theorem sizeI1 : (Try.prog.info? 3).map (·.size) = some 1 := by kernel_rfl
theorem sizeT1 : (Try.prog.info? 9).map (·.size) = some 1 := by kernel_rfl
/-- One expression that may be written over. -/
structure XK (w : World) (lo hi : Nat) (l : EF) (b o : Nat) (v : Value) : Prop where
  i0 : IntC w lo hi b o
  i1 : IntC w lo hi b (o + 1)
  s2 : StrC w lo hi b (o + 2)
  c3 : w.cell? ⟨b, o + 3, Option.none⟩ = some v
  ev : EKV w lo hi l v
theorem XK.on {w w' : World} {lo hi : Nat} {l : EF} {b o : Nat} {v : Value} (h : XK w lo hi l b o v) (m : Mk lo hi w w') : XK w' lo hi l b o v := by
  refine ⟨h.i0.mk m, h.i1.mk m, h.s2.mk m, ?_, h.ev.mk m⟩
  obtain ⟨b', o', a, c, rfl, _⟩ := h.ev
  exact slice_mk h.c3 m
theorem EK.open {w : World} {lo hi p q b o : Nat} {h : EH} {l r : EF} (hk : EK w lo hi (.node p q h l r) b o) : (∃ v, XK w lo hi l b o v) ∧ EK w lo hi r b (o + 4) := by
  obtain ⟨⟨h0, h1, h2, b', o', a', c', h3, e2, h4⟩, h5⟩ := hk
  exact ⟨⟨_, h0, h1, h2, h3, b', o', a', c', rfl, e2, h4⟩, h5⟩
theorem EKV.shape {w : World} {lo hi : Nat} {F : EF} {v : Value} (h : EKV w lo hi F v) : ∃ a c, v = .slice a (elen F) c := by obtain ⟨b, o, a, c, h1, _⟩ := h; exact ⟨a, c, h1⟩
set_option maxHeartbeats 2000000 in
set_option maxRecDepth 100000 in
theorem markExpS_step (lo hi : Nat) (F : EF)
    (ih : ∀ l : EF, enodes l < enodes F → ∀ (m : Int) (w : World) (v : Value), 1 ≤ m → m + 3 * (enodes l : Int) ≤ 20000000 → EKV w lo hi l v → Calls Try.prog 25 #[v, .int .i64 m] w fun e w' => ∃ r : Int, e = .returned (.int .i64 r) ∧ m ≤ r ∧ r ≤ m + 3 * (enodes l : Int) ∧ Mk lo hi w w')
    (m : Int) (w : World) (v : Value) (h1 : 1 ≤ m) (hm : m + 3 * (enodes F : Int) ≤ 20000000) (hv : EKV w lo hi F v) :
    Calls Try.prog 25 #[v, .int .i64 m] w fun e w' => ∃ r : Int, e = .returned (.int .i64 r) ∧ m ≤ r ∧ r ≤ m + 3 * (enodes F : Int) ∧ Mk lo hi w w' := by
  obtain ⟨b, o, ao, cap, rfl, hao, hin⟩ := hv
  have Hih := Lib.hid ih
  have hlenF := elen_le F
  clear ih
  go_enter Try.func25, Try.ntmps25
  go_wp2
  go_loopw [1, 5] (fun x i wr => ∃ (R : EF) (j : Nat) (c : Int), i = .int .i64 (j : Int) ∧ x = .int .i64 c ∧ Hid (j + elen R = elen F ∧ c + 3 * (enodes R : Int) ≤ m + 3 * (enodes F : Int) ∧ enodes R ≤ enodes F ∧ m ≤ c) ∧ Hid (EK wr lo hi R b (o + j * 4)) ∧ Hid (Mk lo hi w wr)) (fun _ i _ => elen F - (RowKit.intOf i).toNat)
  case atStart => exact ⟨F, 0, m, rfl, rfl, ⟨by omega, by omega, by omega, by omega⟩, (by show EK w lo hi F b (o + 0 * 4); simpa using hin), Mk.refl _ _ _⟩
  case round =>
    obtain ⟨R, j, c, rfl, rfl, hr, hek, MK⟩ := hrel
    obtain ⟨e1, e2, e3, e4⟩ := hr.out
    cases R with
    | nil =>
      have hk : ¬ (j : Int) < (elen F : Int) := by simp only [elen] at e1; omega
      simp only [enodes] at e2
      go_wp2
      go_ret
      exact ⟨_, rfl, e4, by omega, MK.out⟩
    | node p q h l r =>
      have hlt : (j : Int) < (elen F : Int) := by simp only [elen] at e1; omega
      have hne : ¬ F = .nil := by intro e; subst e; simp only [elen] at e1; omega
      obtain rfl : ao = some ⟨b, o, Option.none⟩ := hao.resolve_right hne
      obtain ⟨⟨u, hx⟩, hrr⟩ := EK.open hek.out
      simp only [enodes] at e2 e3
      have Hl := Lib.hid (Hih.out l (by omega))
      have He : Hid (j + 1 + elen r = elen F ∧ enodes r ≤ enodes F) := ⟨by simp only [elen] at e1; omega, by omega⟩
      have hcI : c + 3 + 3 * (enodes l : Int) + 3 * (enodes r : Int) ≤ m + 3 * (enodes F : Int) := by omega
      have SK := Lib.hid hx
      have RK := Lib.hid hrr
      clear hr e1 e2 e3 hin hne hao hek hx hrr
      go_wp2_with (refine store_int rfl _ _ 3 rfl b _ _ rfl rfl sizeI1 (by first | exact SK.out.i0 | exact SK.out.i1) ?_; intro W hW; have SK := Lib.hid (SK.out.on hW); have RK := Lib.hid (EK.mk hW _ _ _ RK.out); have MK := Lib.hid (MK.out.trans hW); clear hW)
      refine (markTextI (c + 1 + 1) (by omega) (by omega) _).mono ?_
      rintro e w4 ⟨t4, rfl, hb4⟩
      have m4 : Mk lo hi _ w4 := Mk.of hb4
      have SK := Lib.hid (SK.out.on m4)
      have RK := Lib.hid (EK.mk m4 _ _ _ RK.out)
      have MK := Lib.hid (MK.out.trans m4)
      clear hb4 m4
      go_wp2_with (refine store_str rfl _ _ 9 rfl b _ _ rfl rfl sizeT1 SK.out.s2 ?_; intro W5 hW; have SK := Lib.hid (SK.out.on hW); have RK := Lib.hid (EK.mk hW _ _ _ RK.out); have MK := Lib.hid (MK.out.trans hW); have c3 := SK.out.c3; clear hW)
      refine (Hl.out (c + 1 + 1 + 1) _ u (by omega) (by omega) SK.out.ev).mono ?_
      rintro e w6 ⟨r6, rfl, g1, g2, m6⟩
      have RK := Lib.hid (EK.mk m6 _ _ _ RK.out)
      have MK := Lib.hid (MK.out.trans m6)
      clear m6 SK c3
      go_wp2
      go_roundw
      case rel => exact ⟨r, j + 1, r6, by go_num, rfl, ⟨He.out.1, by omega, He.out.2, by omega⟩, (by rw [show o + (j + 1) * 4 = o + j * 4 + 4 by omega]; exact RK.out), MK.out⟩
      case measure => simp [RowKit.intOf]; omega
theorem markExpS_all (lo hi : Nat) : ∀ (n : Nat) (F : EF), enodes F < n → ∀ (m : Int) (w : World) (v : Value), 1 ≤ m → m + 3 * (enodes F : Int) ≤ 20000000 → EKV w lo hi F v → Calls Try.prog 25 #[v, .int .i64 m] w fun e w' => ∃ r : Int, e = .returned (.int .i64 r) ∧ m ≤ r ∧ r ≤ m + 3 * (enodes F : Int) ∧ Mk lo hi w w'
  | 0, _, h, _, _, _, _, _, _ => absurd h (by omega)
  | n + 1, F, h, m, w, v, h1, h2, hv => markExpS_step lo hi F (fun l hl m w v h1 h2 hv => markExpS_all lo hi n l (by omega) m w v h1 h2 hv) m w v h1 h2 hv
theorem markExpS_is (lo hi : Nat) (F : EF) (m : Int) (w : World) (v : Value) (h1 : 1 ≤ m) (h2 : m + 3 * (enodes F : Int) ≤ 20000000) (hv : EKV w lo hi F v) :
    Calls Try.prog 25 #[v, .int .i64 m] w fun e w' => ∃ r : Int, e = .returned (.int .i64 r) ∧ m ≤ r ∧ r ≤ m + 3 * (enodes F : Int) ∧ Mk lo hi w w' := markExpS_all lo hi _ F (Nat.lt_succ_self _) m w v h1 h2 hv
end Go.Proofs.Ytlepidbgebfglab
