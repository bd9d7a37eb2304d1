/-
  Texts in one: AstPOpen, NamePlain, AstVis, NamePut, TokRune.
-/
import Derived.Test.YtkilmefpaojkfaaGreatP00ofProgOk
import Derived.Test.YtkilmefpaojkfaaGreatP02ofProgOk
import Derived.Sort.Walk0
import Derived.Sort.KeysCollected
import Derived.Deep.LoopGhost
import Derived.Test.YtkilmefpaojkfaaGreatRows
import Derived.WalkKit
import Derived.WalkLawsBesides
import Derived.Laws.Runes
import Derived.Laws.RangeAny
import Derived.Lib.OthersKept
import Derived.Lib.Hide
import Derived.WalkMore
import Derived.Laws.Strings2
import Derived.Laws.Strings3
import Derived.Laws.DeepStrings4
import Derived.Deep.QuietTactic
import Derived.BigQuiet
/-
  Programs that came in, opened; a program in two cells.
-/
namespace Go.Proofs.YtkilmefpaojkfaaGreat
open Go.ChangeShapes Go.WideShapes Go.ChangeAt Go.RowKit
set_option linter.unusedSimpArgs false
set_option linter.unusedVariables false

theorem cA : Tryz.prog.cellsOf 103 = 2 := by kernel_rfl
theorem cP : Tryz.prog.cellsOf 41 = 2 := by kernel_rfl
theorem cAs : Tryz.prog.cellsOf 38 = 1 := by kernel_rfl
section
variable {H : Type} {enc : TypeId × Value → H} {W : World} {sp : Nat → Bool} {held : Bool}
set_option maxRecDepth 100000 in
theorem open_arr {fuel : Nat} {cs : List Value} {y : DataW H × List MemPlace} (h : DataW.trod enc Tryz.prog W 0 sp held fuel 103 cs = some y) : ∃ t : AR, cs = [.string t.s, .int .i64 t.n] ∧ t.s.size ≤ 9223372036854775807 := by
  obtain ⟨xs, m, hm, _, hlen, hxl, hf⟩ := DataW.trod_struct Tryz.underlying103 h
  rw [cA] at hlen
  match xs, hxl, cs, hlen with
  | [y0, y1], _, [v0, v1], _ =>
    have g0 := hf 0 _ rfl
    have g1 := hf 1 _ rfl
    simp [cI, cT] at g0 g1
    obtain ⟨s, e0, _, hs⟩ := DataW.trod_string Tryz.underlying9 g0
    obtain ⟨n, e1, _, _⟩ := DataW.trod_int Tryz.underlying3 g1
    injection e0 with e0; injection e1 with e1
    subst e0; subst e1
    exact ⟨⟨s, n⟩, rfl, by unfold maxLen at hs; show s.size ≤ _; omega⟩
theorem build_arrs {b o len : Nat} (each : ∀ i, i < len → ∃ t : AR, t.s.size ≤ 9223372036854775807 ∧ W.cell? ⟨b, o + i * 2, Option.none⟩ = some (.string t.s) ∧ W.cell? ⟨b, o + i * 2 + 1, Option.none⟩ = some (.int .i64 t.n)) :
    ∀ d, d ≤ len → ∃ R : List AR, R.length = d ∧ (∀ t ∈ R, t.s.size ≤ 9223372036854775807) ∧ ∀ i t, R[i]? = some t → W.cell? ⟨b, o + i * 2, Option.none⟩ = some (.string t.s) ∧ W.cell? ⟨b, o + i * 2 + 1, Option.none⟩ = some (.int .i64 t.n)
  | 0, _ => ⟨[], rfl, fun _ h => by simp at h, fun i t h => by simp at h⟩
  | d + 1, hd => by
    obtain ⟨R, h1, h2, h3⟩ := build_arrs each d (by omega)
    obtain ⟨t, k, c0, c1⟩ := each d (by omega)
    refine ⟨R ++ [t], by simp [h1], fun u hu => ?_, fun i u hu => ?_⟩
    · rcases List.mem_append.1 hu with hu | hu
      · exact h2 u hu
      · simp only [List.mem_cons, List.not_mem_nil, or_false] at hu; subst hu; exact k
    · rcases Nat.lt_or_ge i R.length with hi | hi
      · rw [List.getElem?_append_left hi] at hu; exact h3 i u hu
      · rw [List.getElem?_append_right hi] at hu
        have hi2 : i = d := by have := (List.getElem?_eq_some_iff.1 hu).1; simp at this; omega
        subst hi2
        rw [h1, Nat.sub_self] at hu
        simp at hu; subst hu; exact ⟨c0, c1⟩
theorem open_arrs {fuel : Nat} {cs : List Value} {x : DataW H × List MemPlace} (h : DataW.trod enc Tryz.prog W 0 sp held fuel 38 cs = some x) : ∃ (v : Value) (ts : List AR), cs = [v] ∧ (∀ t ∈ ts, t.s.size ≤ 9223372036854775807) ∧ ts.length ≤ 9223372036854775807 ∧ AV W 0 v ts := by
  rcases DataW.trod_slice Tryz.underlying38 h with ⟨rfl, _⟩ | ⟨a, len, cap, elems, rest, n, hn, rfl, _, _, hl, hmx, hlen, hel, _, _⟩
  · exact ⟨_, [], rfl, fun _ h => by simp at h, by simp, _, _, rfl, .inl rfl⟩
  · rw [cA] at hel
    have each : ∀ i, i < len → ∃ (cs' : List Value) (y : DataW H × List MemPlace), W.cells? 0 (a.add (i * 2)) 2 = some cs' ∧ DataW.trod enc Tryz.prog W 0 sp held n 103 cs' = some y := fun i hi => by
      have h1 := hel i hi
      rw [List.getElem?_eq_getElem (by omega), Option.bind_eq_some_iff] at h1
      obtain ⟨cs', h2, h3⟩ := h1
      exact ⟨cs', _, h2, h3⟩
    rcases Nat.eq_zero_or_pos len with h0 | h0
    · subst h0; exact ⟨_, [], rfl, fun _ h => by simp at h, by simp, _, _, rfl, .inl rfl⟩
    · have each2 : ∀ i, i < len → ∃ t : AR, t.s.size ≤ 9223372036854775807 ∧ ∀ j u, [Value.string t.s, .int .i64 t.n][j]? = some u → W.cell? ((a.add (i * 2)).add j) = some u := fun i hi => by
        obtain ⟨cs', y, h1, h2⟩ := each i hi
        obtain ⟨_, hc, hcell⟩ := World.cells?_some h1
        obtain ⟨t, rfl, k1⟩ := open_arr h2
        refine ⟨t, k1, fun j u hj => ?_⟩
        have hj4 : j < 2 := by have := (List.getElem?_eq_some_iff.1 hj).1; simpa using this
        rw [hcell j hj4]; exact hj
      obtain ⟨b, off, spot⟩ := a
      have hsp : spot = Option.none := by
        obtain ⟨x, _, hc⟩ := each2 0 h0
        have := World.cell?_spot (hc 0 _ rfl)
        simpa [Addr.add] using this
      subst hsp
      have e : ∀ i j, ((⟨b, off, Option.none⟩ : Addr).add i).add j = ⟨b, off + i + j, Option.none⟩ := fun i j => by rw [add_plain, add_plain]
      obtain ⟨R, r1, r2, r3⟩ := build_arrs (W := W) (b := b) (o := off) (len := len) (fun i hi => by
        obtain ⟨t, k1, hc⟩ := each2 i hi
        have c0 := hc 0 _ rfl; have c1 := hc 1 _ rfl
        rw [e] at c0 c1
        exact ⟨t, k1, c0, c1⟩) len (Nat.le_refl _)
      have hlt : b < W.heap.size := by
        obtain ⟨t, _, hc⟩ := each2 0 h0
        have := hc 0 _ rfl
        rw [e] at this
        exact lt_of_cellA this
      refine ⟨_, R, rfl, r2, by unfold maxLen at hmx; omega, _, cap, by rw [r1], .inr ⟨b, off, rfl, Nat.zero_le _, hlt, r3⟩⟩
set_option maxRecDepth 100000 in
theorem open_prog {fuel : Nat} {cs : List Value} {y : DataW H × List MemPlace} (h : DataW.trod enc Tryz.prog W 0 sp held fuel 41 cs = some y) :
    ∃ (ts : List AR) (F : SF) (va vb : Value), cs = [va, vb] ∧ (∀ t ∈ ts, t.s.size ≤ 9223372036854775807) ∧ ts.length ≤ 9223372036854775807 ∧ sok F ∧ slen F ≤ 9223372036854775807 ∧ AV W 0 va ts ∧ SV W 0 F vb := by
  obtain ⟨xs, m, hm, _, hlen, hxl, hf⟩ := DataW.trod_struct Tryz.underlying41 h
  rw [cP] at hlen
  match xs, hxl, cs, hlen with
  | [y0, y1], _, [v0, v1], _ =>
    have g0 := hf 0 _ rfl
    have g1 := hf 1 _ rfl
    simp [cAs, cSs] at g0 g1
    obtain ⟨va, ts, e0, k1, k2, k3⟩ := open_arrs g0
    obtain ⟨vb, F, e1, j1, j2, j3⟩ := open_stmts _ _ _ g1
    injection e0 with e0; injection e1 with e1
    subst e0; subst e1
    exact ⟨ts, F, v0, v1, rfl, k1, k2, j1, j2, k3, j3⟩
end
theorem sizeLP : (Tryz.prog.info? 41).map (·.size) = some 2 := by kernel_rfl
theorem sizeIP : (Tryz.prog.info? 27).map (·.size) = some 2 := by kernel_rfl
/-- A program in two cells of a block. -/
structure Pt (w0 w : World) (n : Nat) (va vb : Value) (ts : List AR) (F : SF) : Prop where
  rg : w.rangeAt n 0 [va, vb]
  av : AV w 0 va ts
  sv : SV w 0 F vb
  low : Below w0.heap.size w0 w
theorem Pt.later {w0 w w' : World} {n : Nat} {va vb : Value} {ts : List AR} {F : SF} (h : Pt w0 w n va vb ts F) (hb : Below w.heap.size w w') : Pt w0 w' n va vb ts F :=
  ⟨rangeAt_later h.rg hb, h.av.later hb, h.sv.later hb, h.low.trans (hb.mono h.low.size)⟩
theorem Pt.start {w : World} (t : TypeId) {va vb : Value} {ts : List AR} {F : SF} (ha : AV w 0 va ts) (hb : SV w 0 F vb) : Pt w (w.alloc (.cells #[va, vb] t)) w.heap.size va vb ts F :=
  ⟨blk_range (arr := #[va, vb]) (heap_last _ _), ha.later (alloc_below _ _), hb.later (alloc_below _ _), alloc_below _ _⟩
theorem newblk2 {w W : World} {t : TypeId} {x y : Value} (a b : Value) (hW : (w.alloc (.cells #[x, y] t)).setCells w.heap.size 0 [a, b] = W) : W.rangeAt w.heap.size 0 [a, b] ∧ Below w.heap.size w W := by
  subst hW
  exact ⟨World.rangeAt_setCells_same _ _ _ _ (blk_there (arr := #[x, y]) (t := t) (heap_last _ _) (Nat.le_refl 2)), below_sets _ _ (alloc_below _ _) (Nat.le_refl _)⟩
theorem oneP {a b : Value} (ha : a.oneCell' = true) (hb : b.oneCell' = true) : (#[a, b] : Array Value).all (·.oneCell') = true :=
  all_oneCell_toArray (cs := [a, b]) (fun v hv => by
    simp only [List.mem_cons, List.not_mem_nil, or_false] at hv
    rcases hv with rfl | rfl <;> assumption)
theorem AV.isOne {w : World} {lo : Nat} {v : Value} {ts : List AR} (h : AV w lo v ts) : v.oneCell' = true := by obtain ⟨a, c, rfl⟩ := h.shape; rfl
end Go.Proofs.YtkilmefpaojkfaaGreat
/-
  Names in order (no Go): what l4Put makes of a row of names, and that rows in order with the same names are the same.
-/
namespace Go.Proofs.YtkilmefpaojkfaaGreat
open Go.RowKit Go.Lib Go.Maps
set_option linter.unusedSimpArgs false
set_option linter.unusedVariables false

/-- One name ahead of another, byte by byte. -/
def blt (a b : ByteArray) : Bool := Op.bytesLess a.toList b.toList
theorem blt_iff (a b : ByteArray) : blt a b = true ↔ a.data.toList < b.data.toList := by
  unfold blt; rw [bytesLess_eq, ByteArray.toList_eq, ByteArray.toList_eq]; simp
theorem blt_irrefl (a : ByteArray) : blt a a = false := by
  cases h : blt a a with
  | false => rfl
  | true => exact absurd ((blt_iff a a).1 h) (List.lt_irrefl _)
theorem blt_trans {a b c : ByteArray} (h : blt a b = true) (g : blt b c = true) : blt a c = true := (blt_iff a c).2 (List.lt_trans ((blt_iff a b).1 h) ((blt_iff b c).1 g))
theorem ba_ext {a b : ByteArray} (h : a.data.toList = b.data.toList) : a = b := ByteArray.ext (Array.toList_inj.1 h)
theorem blt_total {a b : ByteArray} (h : blt a b = false) (hne : a ≠ b) : blt b a = true := by
  rw [blt_iff]
  have h1 : ¬ a.data.toList < b.data.toList := fun hh => by rw [(blt_iff a b).2 hh] at h; cases h
  have h2 : b.data.toList ≤ a.data.toList := List.not_lt.1 h1
  rcases List.le_iff_lt_or_eq.1 h2 with h3 | h3
  · exact h3
  · exact absurd (ba_ext h3).symm hne
/-- In order, no two alike. -/
def Asc (l : List ByteArray) : Prop := l.Pairwise (fun a b => blt a b = true)
theorem Asc.nodup {l : List ByteArray} (h : Asc l) : l.Nodup := List.Pairwise.imp (fun {a b} hab e => by subst e; rw [blt_irrefl] at hab; cases hab) h
theorem asc_ext {l m : List ByteArray} (hl : Asc l) (hm : Asc m) (h : ∀ b, b ∈ l ↔ b ∈ m) : l = m :=
  List.Perm.eq_of_pairwise (le := fun a b => blt a b = true) (fun a b _ _ h1 h2 => by have := blt_trans h1 h2; rw [blt_irrefl] at this; cases this) hl hm ((List.perm_ext_iff_of_nodup hl.nodup hm.nodup).2 h)
/-- What l4Put makes of what is left of a row. -/
def putR (s : ByteArray) : Bool → List ByteArray → List ByteArray
  | d, [] => if d = true then [] else [s]
  | true, x :: r => if x = s then putR s true r else x :: putR s true r
  | false, x :: r => if blt x s = true then (if x = s then putR s false r else x :: putR s false r) else s :: (if x = s then putR s true r else x :: putR s true r)
theorem putR_true (s : ByteArray) : ∀ (l : List ByteArray) (b : ByteArray), b ∈ putR s true l ↔ b ∈ l ∧ b ≠ s
  | [], b => by simp [putR]
  | x :: r, b => by
    have ih := putR_true s r b
    rw [putR]
    by_cases hx : x = s
    · rw [if_pos hx, ih]
      constructor
      · rintro ⟨h1, h2⟩; exact ⟨List.mem_cons_of_mem _ h1, h2⟩
      · rintro ⟨h1, h2⟩
        rcases List.mem_cons.1 h1 with h1 | h1
        · exact absurd (h1.trans hx) h2
        · exact ⟨h1, h2⟩
    · rw [if_neg hx, List.mem_cons, ih, List.mem_cons]
      constructor
      · rintro (h | ⟨h1, h2⟩)
        · exact ⟨.inl h, by rw [h]; exact hx⟩
        · exact ⟨.inr h1, h2⟩
      · rintro ⟨h1 | h1, h2⟩
        · exact .inl h1
        · exact .inr ⟨h1, h2⟩
theorem asc_true (s : ByteArray) : ∀ (l : List ByteArray), Asc l → Asc (putR s true l)
  | [], _ => by simp [putR, Asc]
  | x :: r, h => by
    obtain ⟨h1, h2⟩ := List.pairwise_cons.1 h
    have ih := asc_true s r h2
    rw [putR]
    by_cases hx : x = s
    · rw [if_pos hx]; exact ih
    · rw [if_neg hx]; exact List.pairwise_cons.2 ⟨fun b hb => h1 b ((putR_true s r b).1 hb).1, ih⟩
theorem asc_put (s : ByteArray) : ∀ (l : List ByteArray), Asc l → Asc (putR s false l) ∧ ∀ b, b ∈ putR s false l ↔ (b = s ∨ b ∈ l)
  | [], _ => by simp [putR, Asc]
  | x :: r, h => by
    obtain ⟨h1, h2⟩ := List.pairwise_cons.1 h
    obtain ⟨i1, i2⟩ := asc_put s r h2
    rw [putR]
    cases hb : blt x s with
    | true =>
      have hx : ¬ x = s := fun e => by subst e; rw [blt_irrefl] at hb; cases hb
      rw [if_pos rfl, if_neg hx]
      refine ⟨List.pairwise_cons.2 ⟨fun b hbm => ?_, i1⟩, fun b => ?_⟩
      · rcases (i2 b).1 hbm with e | e
        · subst e; exact hb
        · exact h1 b e
      · rw [List.mem_cons, i2 b, List.mem_cons]
        constructor
        · rintro (e | e | e) <;> simp [e]
        · rintro (e | e | e) <;> simp [e]
    | false =>
      rw [if_neg (by simp)]
      by_cases hx : x = s
      · subst hx
        rw [if_pos rfl]
        refine ⟨List.pairwise_cons.2 ⟨fun b hbm => h1 b ((putR_true x r b).1 hbm).1, asc_true x r h2⟩, fun b => ?_⟩
        rw [List.mem_cons, putR_true, List.mem_cons]
        constructor
        · rintro (e | ⟨e, _⟩)
          · exact .inl e
          · exact .inr (.inr e)
        · rintro (e | e | e)
          · exact .inl e
          · exact .inl e
          · by_cases hbx : b = x
            · exact .inl hbx
            · exact .inr ⟨e, hbx⟩
      · have hsx := blt_total hb hx
        rw [if_neg hx]
        refine ⟨List.pairwise_cons.2 ⟨fun b hbm => ?_, List.pairwise_cons.2 ⟨fun b hbm => h1 b ((putR_true s r b).1 hbm).1, asc_true s r h2⟩⟩, fun b => ?_⟩
        · rcases List.mem_cons.1 hbm with e | e
          · rw [e]; exact hsx
          · exact blt_trans hsx (h1 b ((putR_true s r b).1 e).1)
        · rw [List.mem_cons, List.mem_cons, putR_true, List.mem_cons]
          constructor
          · rintro (e | e | ⟨e, _⟩)
            · exact .inl e
            · exact .inr (.inl e)
            · exact .inr (.inr e)
          · rintro (e | e | e)
            · exact .inl e
            · exact .inr (.inl e)
            · by_cases hbs : b = s
              · exact .inl hbs
              · exact .inr (.inr ⟨e, hbs⟩)
/-- How long a row gets. -/
theorem putR_len (s : ByteArray) : ∀ (d : Bool) (l : List ByteArray), (putR s d l).length ≤ l.length + 1
  | true, [] => by simp [putR]
  | false, [] => by simp [putR]
  | true, x :: r => by
    have := putR_len s true r
    rw [putR]; split <;> simp only [List.length_cons] <;> omega
  | false, x :: r => by
    have h1 := putR_len s false r
    have h2 : (putR s true r).length ≤ r.length := by
      clear h1
      induction r with
      | nil => simp [putR]
      | cons y r ih => rw [putR]; split <;> simp only [List.length_cons] <;> omega
    rw [putR]; split <;> split <;> simp only [List.length_cons] <;> omega
/-- The names of statements of a kind, behind those that came. -/
def nmS (k : Int) : SF → List ByteArray → List ByteArray
  | .nil, out => out
  | .node _ _ h l r, out => nmS k r (nmS k l (if h.k = k then putR h.s false out else out))
/-- The names of expressions of a kind. -/
def nmE (k : Int) : EF → List ByteArray → List ByteArray
  | .nil, out => out
  | .node _ _ h l r, out => nmE k r (nmE k l (if h.k = k then putR h.s false out else out))
def nmX (k : Int) (x : X) (out : List ByteArray) : List ByteArray := nmE k x.l (if x.h.k = k then putR x.h.s false out else out)
def nmA (k : Int) : SF → List ByteArray → List ByteArray
  | .nil, out => out
  | .node _ _ h l r, out => nmA k r (nmA k l (nmX k h.x4 (nmX k h.x3 (nmX k h.x2 (nmX k h.x1 out)))))
end Go.Proofs.YtkilmefpaojkfaaGreat
/-
  The contract of the landed code's visitAll over statements: whatever it is handed to do at each of them.
-/
namespace Go.Proofs.YtkilmefpaojkfaaGreat
open Go.RowKit Go.Lib
set_option linter.unusedSimpArgs false
set_option linter.unusedVariables false

theorem lt_heap {w : World} {g : Nat} {o : Obj} (h : w.heap[g]? = some o) : g < w.heap.size := (Array.getElem?_eq_some_iff.1 h).1
theorem ownB {w w' : World} {B sz n : Nat} {e : TypeId} {v : Value} {xs : List Value} (h : w.ownsRow B e sz v n xs) (hb : Below w.heap.size w w') : w'.ownsRow B e sz v n xs := by
  refine ⟨h.1, ?_⟩
  rcases h.2 with h0 | ⟨g, cap, cur, h1, h2, h3, h4⟩
  · exact .inl h0
  · exact .inr ⟨g, cap, cur, h1, h2, (hb.block g (lt_heap h3)).trans h3, h4⟩
theorem ownSets {w : World} {B sz n N : Nat} {e : TypeId} {v : Value} {xs : List Value} (h : w.ownsRow B e sz v n xs) (hN : ∀ o, w.heap[N]? = some o → ∀ g, v.ownBlock = some g → N ≠ g) (o : Nat) (vs : List Value) (hn : N < w.heap.size) : (w.setCells N o vs).ownsRow B e sz v n xs := by
  refine ⟨h.1, ?_⟩
  rcases h.2 with h0 | ⟨g, cap, cur, h1, h2, h3, h4⟩
  · exact .inl h0
  · refine .inr ⟨g, cap, cur, h1, h2, ?_, h4⟩
    have hne : N ≠ g := hN _ (Array.getElem?_eq_getElem hn) g (by rw [h1]; rfl)
    have : ∀ (vs : List Value) (o : Nat) (w : World), (w.setCells N o vs).heap[g]? = w.heap[g]? := by
      intro vs
      induction vs with
      | nil => intro o w; rfl
      | cons x xs ih => intro o w; rw [World.setCells, ih, Below.heap_setCell _ _ _ _ (fun e => hne e.symm)]
    rw [this]; exact h3
/-- A row with something in it. -/
theorem own_some {w : World} {B sz n : Nat} {e : TypeId} {v : Value} {xs : List Value} (h : w.ownsRow B e sz v (n + 1) xs) : ∃ g cap, v = .slice (some ⟨g, 0, Option.none⟩) (n + 1) cap ∧ n + 1 ≤ cap ∧ cap ≤ maxLen ∧ B ≤ g ∧ g < w.heap.size := by
  rcases h.2 with ⟨_, h0⟩ | ⟨g, cap, cur, h1, h2, h3, h4, h5, _⟩
  · cases h0
  · exact ⟨g, cap, h1, h4, h5, h2, lt_heap h3⟩
theorem own_none {w : World} {B sz : Nat} {e : TypeId} {v : Value} {xs : List Value} (h : w.ownsRow B e sz v 0 xs) : ∃ a cap, v = .slice a 0 cap := by
  rcases h.2 with ⟨h1, h0⟩ | ⟨g, cap, cur, h1, _⟩
  · exact ⟨_, _, h1⟩
  · exact ⟨_, _, h1⟩
/-- The last one is let go. -/
theorem own_pop {w : World} {B sz n g cap : Nat} {e : TypeId} {xs ys : List Value} (h : w.ownsRow B e sz (.slice (some ⟨g, 0, Option.none⟩) (n + 1) cap) (n + 1) (xs ++ ys)) (hx : xs.length = n * sz) : w.ownsRow B e sz (.slice (some ⟨g, 0, Option.none⟩) n cap) n xs := by
  refine ⟨hx, ?_⟩
  rcases h.2 with ⟨h0, _⟩ | ⟨g', cap', cur, h1, h2, h3, h4, h5, h6, h7⟩
  · cases h0
  · injection h1 with e1 e2 e3
    subst e3
    refine .inr ⟨g, cap, cur, rfl, ?_, ?_, by omega, h5, h6, ?_⟩
    · injection e1 with e1; injection e1 with e1; subst e1; exact h2
    · injection e1 with e1; injection e1 with e1; subst e1; exact h3
    · have := congrArg (List.take (n * sz)) h7
      rw [List.take_take, Nat.min_eq_left (Nat.mul_le_mul_right sz (Nat.le_succ n)), List.take_append_of_le_length (by omega)] at this
      rw [this, List.take_of_length_le (by omega)]
/-- A cell of a row that the call owns. -/
theorem own_cell {w : World} {B sz n g cap : Nat} {e : TypeId} {xs : List Value} (h : w.ownsRow B e sz (.slice (some ⟨g, 0, Option.none⟩) n cap) n xs) {j : Nat} {u : Value} (hu : xs[j]? = some u) : w.cell? ⟨g, j, Option.none⟩ = some u := by
  have hc := h.cells (g := g) rfl j u hu
  have e1 : (⟨g, 0, Option.none⟩ : Addr).add j = ⟨g, j, Option.none⟩ := by simp [Addr.add]; omega
  rwa [e1] at hc
/-- What is left to do: rows of statements, each in its slice. -/
abbrev TdS := List (SF × Value)
/-- A new block that is stored into at once. -/
theorem newblk {w W : World} {arr : Array Value} {t : TypeId} {vs : List Value} (hn : vs.length ≤ arr.size) (hW : (w.alloc (.cells arr t)).setCells w.heap.size 0 vs = W) : W.rangeAt w.heap.size 0 vs ∧ Below w.heap.size w W := by
  have e : (w.alloc (.cells arr t)).heap[w.heap.size]? = some (.cells arr t (0, 0)) := by show (w.heap.push _)[w.heap.size]? = _; simp
  subst hW
  exact ⟨World.rangeAt_setCells_same _ _ _ _ (blk_there e hn), below_sets _ _ (alloc_below _ _) (Nat.le_refl _)⟩
theorem newthere (w : World) (t : TypeId) : (w.alloc (.cells zero19 t)).there w.heap.size 0 19 := blk_there (arr := zero19) (t := t) (by show (w.heap.push _)[w.heap.size]? = _; simp) (Nat.le_refl 19)
theorem new1 (w : World) (u : Value) (t : TypeId) : ∀ j x, [u][j]? = some x → (w.alloc (.cells #[u] t)).cell? ((⟨w.heap.size, 0, Option.none⟩ : Addr).add j) = some x := by
  intro j x h
  have e : (w.alloc (.cells #[u] t)).heap[w.heap.size]? = some (.cells #[u] t (0, 0)) := by show (w.heap.push _)[w.heap.size]? = _; simp
  match j, h with
  | 0, h =>
    have e0 : (⟨w.heap.size, 0, Option.none⟩ : Addr).add 0 = ⟨w.heap.size, 0, Option.none⟩ := by simp [Addr.add]
    rw [e0]; simp only [World.cell?, e]; simpa using h
  | j + 1, h => simp at h
theorem newblkS {w W : World} {t : TypeId} (h : SH) (v1 v2 v3 v4 v : Value) (hW : (w.alloc (.cells zero19 t)).setCells w.heap.size 0 (scells h v1 v2 v3 v4 v) = W) : W.rangeAt w.heap.size 0 (scells h v1 v2 v3 v4 v) ∧ Below w.heap.size w W := newblk (arr := zero19) (Nat.le_refl 19) hW
/-- One more to do. -/
theorem snocS {w w5 w6 : World} {td : TdS} {t v' u : Value} {l : SF} {o : Obj} (hown : w5.ownsRow w.heap.size 25 1 t td.length (td.map (·.2))) (hb : Below w.heap.size w w5) (hg : (w5.alloc o).grownBy w6 t.ownBlock)
    (h : w6.ownsRow w.heap.size 25 1 v' (td.length + 1) (td.map (·.2) ++ [u])) : w6.ownsRow w.heap.size 25 1 v' (td ++ [(l, u)]).length ((td ++ [(l, u)]).map (·.2)) ∧ Below w.heap.size w w6 :=
  ⟨by rw [List.length_append, List.map_append]; exact h, (hb.alloc hb.size o).grown hg (by have := hb.size; simp; omega) (fun k hk => (hown.lt k hk).1)⟩
theorem infoSS : (Tryz.prog.info? 25).map (fun i => (i.zero, i.size, i.bytes)) = some (some (.slice Option.none 0 0), 1, 24) := by kernel_rfl

abbrev zero4 : Array Value := #[.int .i64 0, .int .i64 0, .string ⟨#[]⟩, .slice Option.none 0 0]
theorem newthere4 (w : World) (t : TypeId) : (w.alloc (.cells zero4 t)).there w.heap.size 0 4 := blk_there (arr := zero4) (t := t) (by show (w.heap.push _)[w.heap.size]? = _; simp) (Nat.le_refl 4)
theorem newblk4 {w W : World} {t : TypeId} (x : X) (v : Value) (hW : (w.alloc (.cells zero4 t)).setCells w.heap.size 0 (xcells x v) = W) : W.rangeAt w.heap.size 0 (xcells x v) ∧ Below w.heap.size w W := newblk (arr := zero4) (Nat.le_refl 4) hW
/-- Blocks from lo up to hi may turn, and memory may grow; nothing else turns. -/
structure Gap (lo hi : Nat) (w w' : World) : Prop where
  os : w'.os = w.os
  tape : w'.tape = w.tape
  output : w'.output = w.output
  size : w.heap.size ≤ w'.heap.size
  block : ∀ k, k < w.heap.size → (k < lo ∨ hi ≤ k) → w'.heap[k]? = w.heap[k]?
theorem Gap.refl (lo hi : Nat) (w : World) : Gap lo hi w w := ⟨rfl, rfl, rfl, Nat.le_refl _, fun _ _ _ => rfl⟩
theorem Gap.trans {lo hi : Nat} {w w1 w2 : World} (h : Gap lo hi w w1) (g : Gap lo hi w1 w2) : Gap lo hi w w2 :=
  ⟨g.os.trans h.os, g.tape.trans h.tape, g.output.trans h.output, Nat.le_trans h.size g.size, fun k hk hc => (g.block k (Nat.lt_of_lt_of_le hk h.size) hc).trans (h.block k hk hc)⟩
theorem Gap.of (lo hi : Nat) {w w' : World} (h : Below w.heap.size w w') : Gap lo hi w w' := ⟨h.os, h.tape, h.output, h.size, fun k hk _ => h.block k hk⟩
theorem Gap.below {lo hi n : Nat} {w w' : World} (h : Gap lo hi w w') (hn : n ≤ lo) (hw : n ≤ w.heap.size) : Below n w w' := ⟨h.os, h.tape, h.output, h.size, fun k hk => h.block k (by omega) (.inl (by omega))⟩
theorem Gap.wider {lo hi lo' hi' : Nat} {w w' : World} (h : Gap lo hi w w') (h1 : lo' ≤ lo) (h2 : hi ≤ hi') : Gap lo' hi' w w' := ⟨h.os, h.tape, h.output, h.size, fun k hk hc => h.block k hk (by omega)⟩
theorem ownM {w w' : World} {lo hi B sz n : Nat} {e : TypeId} {v : Value} {xs : List Value} (h : w.ownsRow B e sz v n xs) (hb : Gap lo hi w w') (hB : hi ≤ B) : w'.ownsRow B e sz v n xs := by
  refine ⟨h.1, ?_⟩
  rcases h.2 with h0 | ⟨g, cap, cur, h1, h2, h3, h4⟩
  · exact .inl h0
  · exact .inr ⟨g, cap, cur, h1, h2, (hb.block g (lt_heap h3) (.inr (by omega))).trans h3, h4⟩
/-- What does not lie there need not be told apart. -/
def Quiet {α : Type} (lo hi : Nat) (J : List α → World → Prop) : Prop := ∀ vs w1 w2, J vs w1 → w1.heap.size ≤ w2.heap.size → (∀ k, lo ≤ k → k < hi → w2.heap[k]? = w1.heap[k]?) → J vs w2
theorem Quiet.below {α : Type} {lo hi : Nat} {J : List α → World → Prop} (q : Quiet lo hi J) {vs : List α} {w1 w2 : World} (h : J vs w1) (hh : hi ≤ w1.heap.size) (hb : Below w1.heap.size w1 w2) : J vs w2 := q vs w1 w2 h hb.size fun k _ hk => hb.block k (by omega)
/-- A statement and what stands under it. -/
abbrev SN := SH × SF
/-- All that stand in a row, and under them. -/
def sall : SF → List SN
  | .nil => []
  | .node _ _ h l r => (h, l) :: (sall l ++ sall r)
theorem sall_len : ∀ F : SF, (sall F).length = snodes F
  | .nil => rfl
  | .node _ _ h l r => by have := sall_len l; have := sall_len r; simp only [sall, snodes, List.length_cons, List.length_append]; omega
def tall : TdS → List SN
  | [] => []
  | p :: r => sall p.1 ++ tall r
theorem tall_app (a b : TdS) : tall (a ++ b) = tall a ++ tall b := by
  induction a with
  | nil => rfl
  | cons p a ih => simp only [List.cons_append, tall, ih, List.append_assoc]
/-- The state between two rounds. -/
structure VisS (w : World) (F : SF) (td : TdS) (vs : List SN) (m : Nat) : Prop where
  all : ∀ p ∈ td, SV w 0 p.1 p.2
  perm : (vs ++ tall td).Perm (sall F)
  len : td.length + (tall td).length = m
  big : m ≤ snodes F + 1
/-- Within a round: R is what of the row is still to be looked at. -/
structure VisR (w : World) (F : SF) (td : TdS) (vs : List SN) (m : Nat) (R G : SF) (k b o : Nat) : Prop where
  all : ∀ p ∈ td, SV w 0 p.1 p.2
  perm : (vs ++ (tall td ++ sall R)).Perm (sall F)
  len : td.length + (tall td).length + (sall R).length + 1 = m
  big : m ≤ snodes F + 1
  at_ : SIn w 0 R b (o + k * 19)
  num : k + slen R = slen G
theorem VisS.pop {w : World} {F : SF} {td : TdS} {vs : List SN} {m : Nat} {p : SF × Value} {b o : Nat} (h : VisS w F (td ++ [p]) vs m) (hin : SIn w 0 p.1 b o) : VisR w F td vs m p.1 p.1 0 b o := by
  have h1 := h.perm; have h2 := h.len; have h3 := h.big
  rw [tall_app] at h1 h2
  simp only [tall, List.length_append, List.length_cons, List.length_nil, List.append_nil] at h1 h2
  exact ⟨fun q hq => h.all q (List.mem_append_left _ hq), h1, by omega, h3, by simpa using hin, by omega⟩
theorem VisR.push {w : World} {F : SF} {td : TdS} {vs : List SN} {m p q : Nat} {hd : SH} {l r G : SF} {k b o : Nat} {u : Value} (h : VisR w F td vs m (.node p q hd l r) G k b o) (hu : SV w 0 l u) : VisR w F (td ++ [(l, u)]) (vs ++ [(hd, l)]) m r G (k + 1) b o := by
  have h1 := h.perm; have h2 := h.len; have h4 := h.num
  simp only [sall, slen, List.length_cons, List.length_append] at h1 h2 h4
  refine ⟨fun q hq => ?_, ?_, ?_, h.big, ?_, by omega⟩
  · rcases List.mem_append.1 hq with hq | hq
    · exact h.all q hq
    · simp only [List.mem_cons, List.not_mem_nil, or_false] at hq; subst hq; exact hu
  · refine List.Perm.trans ?_ h1
    rw [tall_app]
    simp only [tall, List.append_nil, List.append_assoc, List.singleton_append, List.cons_append, List.nil_append]
    exact (List.perm_middle.symm).append_left vs
  · rw [tall_app]; simp only [tall, List.length_append, List.length_cons, List.length_nil]; omega
  · rw [show o + (k + 1) * 19 = o + k * 19 + 19 by omega]; exact (SIn_node.1 h.at_).2
theorem VisR.done {w : World} {F : SF} {td : TdS} {vs : List SN} {m : Nat} {G : SF} {k b o : Nat} (h : VisR w F td vs m .nil G k b o) : VisS w F td vs (m - 1) := by
  have h1 := h.perm; have h2 := h.len; have h3 := h.big
  simp only [sall, List.length_nil, List.append_nil] at h1 h2
  exact ⟨h.all, h1, by omega, by omega⟩
theorem VisR.mem {w : World} {F : SF} {td : TdS} {vs : List SN} {m p q : Nat} {hd : SH} {l r G : SF} {k b o : Nat} (h : VisR w F td vs m (.node p q hd l r) G k b o) : (hd, l) ∈ sall F ∧ vs.length < snodes F := by
  have h1 := h.perm
  refine ⟨h1.subset (by simp [sall]), ?_⟩
  have := h1.length_eq
  rw [sall_len] at this
  simp only [sall, List.length_append, List.length_cons] at this
  omega
/-- One more to do. -/
theorem snocG {w w5 w6 : World} {lo hi : Nat} {td : TdS} {t v' u : Value} {l : SF} {o : Obj} (hown : w5.ownsRow w.heap.size 25 1 t td.length (td.map (·.2))) (hb : Gap lo hi w w5) (hg : (w5.alloc o).grownBy w6 t.ownBlock)
    (h : w6.ownsRow w.heap.size 25 1 v' (td.length + 1) (td.map (·.2) ++ [u])) : w6.ownsRow w.heap.size 25 1 v' (td ++ [(l, u)]).length ((td ++ [(l, u)]).map (·.2)) ∧ Gap lo hi w w6 ∧ w5.heap.size ≤ w6.heap.size ∧ ∀ k, k < w.heap.size → w6.heap[k]? = w5.heap[k]? := by
  have hbl : Below w.heap.size w5 w6 := ((Below.refl w.heap.size w5).alloc hb.size o).grown hg (by have := hb.size; simp; omega) (fun k hk => (hown.lt k hk).1)
  refine ⟨by rw [List.length_append, List.map_append]; exact h, ?_, hbl.size, hbl.block⟩
  exact ⟨hbl.os.trans hb.os, hbl.tape.trans hb.tape, hbl.output.trans hb.output, Nat.le_trans hb.size hbl.size, fun k hk hc => (hbl.block k hk).trans (hb.block k hk hc)⟩
/-- What is handed to visitAll to do at each. -/
def DoesS (w0 : World) (n lo hi : Nat) (F : SF) (kf : Nat) (caps : Array Value) (J : List SN → World → Prop) : Prop :=
  ∀ (vs : List SN) (h : SH) (l : SF) (v1 v2 v3 v4 u : Value) (w1 : World), J vs w1 → Below w0.heap.size w0 w1 → n ≤ w1.heap.size → HV w0 0 h v1 v2 v3 v4 → SV w0 0 l u → (h, l) ∈ sall F → vs.length < snodes F →
    Calls Tryz.prog kf (#[sagg h v1 v2 v3 v4 u] ++ caps) w1 fun e w2 => e = .returned (.tuple #[]) ∧ J (vs ++ [(h, l)]) w2 ∧ Gap lo hi w1 w2
set_option maxHeartbeats 4000000 in
set_option maxRecDepth 100000 in
theorem visitAllS_is (F : SF) (hF : snodes F ≤ 10000000) (w0 w : World) (hb0 : Below w0.heap.size w0 w) (lo hi : Nat) (hlo : w0.heap.size ≤ lo) (hhi : hi ≤ w.heap.size) (v : Value) (hv : SV w0 0 F v) (kf : Nat) (hent : ∀ (args : Array Value) (w : World), (callFunc kf args).run Tryz.prog w = .ok (.enter kf args) w) (caps : Array Value) (J : List SN → World → Prop) (hq : Quiet lo hi J) (hJ : J [] w) (hdo : DoesS w0 w.heap.size lo hi F kf caps J) :
    Calls Tryz.prog 28 #[v, .func (.func 29) #[] #[], .func (.func kf) #[] caps] w fun e w' => e = .returned (.tuple #[]) ∧ (∃ vs, J vs w' ∧ vs.Perm (sall F)) ∧ Gap lo hi w w' := by
  obtain ⟨i0, hi0, hz0, hz1, hz2⟩ := info_parts infoSS
  have C0 : Hid (VisS w0 F [(F, v)] [] (snodes F + 1)) := ⟨fun p hp => by simp only [List.mem_cons, List.not_mem_nil, or_false] at hp; subst hp; exact hv, by simp [tall], by simp [tall, sall_len]; omega, Nat.le_refl _⟩
  have Hdo := Lib.hid hdo
  have Hq := Lib.hid hq
  have HJ := Lib.hid hJ
  have Hb0 := Lib.hid hb0
  have hsz0 := hb0.size
  obtain ⟨a0, c0, rfl⟩ := hv.shape
  clear hv hdo hq hJ hb0
  go_enter Tryz.func28, Tryz.ntmps28
  go_wp2
  go_loopg [6] (snodes F + 1) (fun m t wr => ∃ (td : TdS) (vs : List SN), Hid (VisS w0 F td vs m) ∧ wr.ownsRow w.heap.size 25 1 t td.length (td.map (·.2)) ∧ Hid (J vs wr) ∧ Gap lo hi w wr)
  case atStart => exact ⟨[(F, .slice a0 (slen F) c0)], [], C0.out, ⟨rfl, .inr ⟨w.heap.size, 1, #[.slice a0 (slen F) c0], rfl, Nat.le_refl _, (by show (w.heap.push _)[w.heap.size]? = _; simp), Nat.le_refl _, (by unfold maxLen; omega), rfl, rfl⟩⟩, Hq.out.below HJ.out hhi (alloc_below _ _), Gap.of _ _ (alloc_below _ _)⟩
  case round =>
    obtain ⟨td, vs, hC, hown, hJv, hbw⟩ := hrel
    clear C0
    rcases List.eq_nil_or_concat td with rfl | ⟨ti, p, htd⟩
    · obtain ⟨a, cap, rfl⟩ := own_none hown
      have hs := hC.out.perm
      simp only [tall, List.append_nil] at hs
      have Hs := Lib.hid hs
      clear hs
      go_wp2
      go_end0
      exact ⟨rfl, ⟨vs, hJv.out, Hs.out⟩, hbw⟩
    · rw [List.concat_eq_append] at htd
      subst htd
      rw [List.length_append, List.map_append] at hown
      obtain ⟨g, cap, rfl, hc1, hc2, hBg, hg⟩ := own_some hown
      have hcell := own_cell hown (j := ti.length) (u := p.2) (by rw [List.getElem?_append_right (by simp)]; simp)
      have hpop := own_pop hown (by simp)
      obtain ⟨b, o, pa, pc, hpv, hpa, _, hpin⟩ := hC.out.all p (by simp)
      have hR := hC.out.pop hpin
      rw [hpv] at hcell
      have hnp : slen p.1 ≤ 10000000 := by have := hR.len; have := hR.big; have := slen_le p.1; rw [sall_len] at *; omega
      have hlen : ti.length ≤ 10000001 := by have := hR.len; have := hR.big; omega
      have HR := Lib.hid hR
      have hcapI : (ti.length : Int) + 1 ≤ (cap : Int) := by omega
      have hlenI : (ti.length : Int) ≤ 10000001 := by omega
      have hmx : (cap : Int) ≤ 9223372036854775807 := by unfold maxLen at hc2; omega
      clear hC hown hpin hR hc1 hlen hc2
      go_wp2
      go_loopw [6, 28] (fun t i wr2 => ∃ (td : TdS) (vs : List SN) (R : SF) (k : Nat), i = .int .i64 (k : Int) ∧ Hid (VisR w0 F td vs gk R p.1 k b o) ∧ wr2.ownsRow w.heap.size 25 1 t td.length (td.map (·.2)) ∧ Hid (J vs wr2) ∧ Gap lo hi w wr2) (fun _ i _ => slen p.1 - (RowKit.intOf i).toNat)
      case atStart => exact ⟨ti, vs, p.1, 0, rfl, HR.out, hpop, hJv.out, hbw⟩
      case round =>
        obtain ⟨td, vs, R, k, rfl, hR, hown, hJv2, hbr⟩ := hrel
        clear hcell hpop HR hbw hJv
        cases R with
        | nil =>
          have hk : ¬ (k : Int) < (slen p.1 : Int) := by have := hR.out.num; simp only [slen] at this; omega
          go_wp2
          go_roundg (gk - 1)
          case measure => have := hR.out.len; omega
          case rel => exact ⟨td, vs, hR.out.done, hown, hJv2, hbr⟩
        | node p' q' h l r =>
          have hlt : (k : Int) < (slen p.1 : Int) := by have := hR.out.num; simp only [slen] at this; omega
          have hne : ¬ p.1 = .nil := by intro e; have := hR.out.num; rw [e] at this; simp only [slen] at this; omega
          obtain rfl : pa = some ⟨b, o, Option.none⟩ := hpa.resolve_right hne
          have hbz : Below w0.heap.size w0 wr := Hb0.out.trans (hbr.below hlo hsz0)
          obtain ⟨v1, v2, v3, v4, u, hu, hul, hrg⟩ := (SIn_node.1 hR.out.at_).1.range
          have Hrg := Lib.hid (rangeAt_later hrg hbz)
          have Hbz := Lib.hid hbz
          have hR2 := Lib.hid (hR.out.push hul)
          have hM := Lib.hid hR.out.mem
          have HU := Lib.hid hu
          have HL := Lib.hid hul
          have o1 := hu.e1.isOne
          have o2 := hu.e2.isOne
          have o3 := hu.e3.isOne
          have o4 := hu.e4.isOne
          have o5 := hul.isOne
          obtain ⟨ua, uc, rfl⟩ := hul.shape
          have hn1 : td.length ≤ 10000001 := by have := hR.out.len; have := hR.out.big; omega
          have Hn1 := Lib.hid hn1
          have hsz := hbr.size
          clear hrg hu hul hR hne hn1 hpa hbz
          go_wp2_with (first | (refine wpList_load_mid rfl 57 _ rfl b (o + k * 19) rfl _ _ Hrg.out Tryz.underlying57 rfl sizeIS ?_) | (refine store_abs rfl 57 _ _ rfl _ _ _ rfl rfl ?ht sizeIS ?ho ?_; exact (newthere wr _); exact (oneS h v1 v2 v3 v4 _ o1 o2 o3 o4 o5); intro W hW; have HW := Lib.hid (newblkS h v1 v2 v3 v4 _ hW); clear hW) | (refine wpList_load_mid rfl 57 _ rfl wr.heap.size 0 rfl _ _ HW.out.1 Tryz.underlying57 rfl sizeIS ?_))
          refine (Hdo.out vs h l v1 v2 v3 v4 (.slice ua (slen l) uc) _ (Hq.out.below hJv2.out (Nat.le_trans hhi hsz) HW.out.2) (Hbz.out.trans (HW.out.2.mono Hbz.out.size)) (Nat.le_trans hsz HW.out.2.size) HU.out HL.out hM.out.1 hM.out.2).mono ?_
          rintro e w4 ⟨rfl, hJ4, hg4⟩
          have HJ4 := Lib.hid hJ4
          have hown4 := ownM (ownB hown HW.out.2) hg4 hhi
          have hbr4 := hbr.trans ((Gap.of lo hi HW.out.2).trans hg4)
          have hr4 : w4.rangeAt wr.heap.size 0 (scells h v1 v2 v3 v4 (.slice ua (slen l) uc)) := fun j x hx => by
            have h1 := HW.out.1 j x hx
            have h2 := lt_of_cellA h1
            have h3 := hg4.block wr.heap.size h2 (.inr (Nat.le_trans hhi hsz))
            unfold World.cell? at h1 ⊢
            simp only [h3]
            exact h1
          have Hr4 := Lib.hid hr4
          have hs4 := hbr4.size
          have hs4' := HW.out.2.size
          have hs4'' := hg4.size
          clear hJ4 hg4 hr4 hown hbr HW Hrg hJv2 HU HL
          go_wp2_with (refine wpList_load_mid rfl 57 _ rfl wr.heap.size 0 rfl _ _ Hr4.out Tryz.underlying57 rfl sizeIS ?_)
          refine (bodyOf_is h v1 v2 v3 v4 _ _).mono ?_
          rintro e w5 ⟨rfl, hb5⟩
          have hown5 := ownB hown4 hb5
          have hbr5 := hbr4.trans (Gap.of lo hi hb5)
          have HJ5 := Lib.hid (Hq.out.below HJ4.out (Nat.le_trans hhi hs4) hb5)
          have HO := Lib.hid hown5
          have hs5 := hbr5.size
          have hlt5 : td.length ≤ 10000001 := Hn1.out
          obtain ⟨ta, tc, rfl⟩ : ∃ ta tc, u6 = .slice ta td.length tc := by
            rcases hown5.2 with ⟨h1, h0⟩ | ⟨g, cap, cur, h1, _⟩
            · exact ⟨_, _, by rw [h0]; exact h1⟩
            · exact ⟨_, _, h1⟩
          clear hb5 hown4 hbr4 Hr4 o1 o2 o3 o4 o5
          go_wp2_with (at_builtin; refine wpList_append_own _ rfl _ _ 88 rfl w.heap.size 25 i0 _ 1 24 Tryz.underlying88 hi0 hz0 hz1 hz2 rfl (by decide) _ _ _ rfl (hown5.alloc _) ⟨w5.heap.size, 0, Option.none⟩ 1 1 [.slice ua (slen l) uc] rfl rfl ?c1 ?c2 ?c3 ?c4 ?c5 ?_)
          case c1 => exact new1 _ _ _
          case c2 => intro x hx; simp only [List.mem_cons, List.not_mem_nil, or_false] at hx; subst hx; rfl
          case c3 => unfold maxLen; omega
          case c4 => omega
          case c5 => simp; omega
          intro v' w6 hown' hgrow _
          obtain ⟨n1, n2, n3⟩ := snocG (l := l) hown5 hbr5 hgrow hown'
          have HJ6 := Lib.hid (Hq.out (vs ++ [(h, l)]) w5 w6 HJ5.out n3.1 (fun k _ hk => n3.2 k (by omega)))
          clear hown' hgrow hown5 hbr5 HO
          go_wp2
          go_roundw
          case rel => exact ⟨td ++ [(l, .slice ua (slen l) uc)], vs ++ [(h, l)], r, k + 1, by go_num, hR2, n1, HJ6, n2⟩
          case measure => simp [RowKit.intOf]; omega
end Go.Proofs.YtkilmefpaojkfaaGreat
/-
  The contracts of the specification's l4Put, l4Names, VarsOf, LoopVars: names in order.
-/
namespace Go.Proofs.YtkilmefpaojkfaaGreat
open Go.RowKit Go.Lib
set_option linter.unusedSimpArgs false
set_option linter.unusedVariables false

/-- A slice that holds these names, at lo or above. -/
def TV (w : World) (lo : Nat) (v : Value) (ns : List ByteArray) : Prop :=
  ∃ ao cap, v = .slice ao ns.length cap ∧ (ns = [] ∨ ∃ g off, ao = some ⟨g, off, Option.none⟩ ∧ lo ≤ g ∧ g < w.heap.size ∧ ∀ i t, ns[i]? = some t → w.cell? ⟨g, off + i, Option.none⟩ = some (.string t))
theorem TV.same {w w' : World} {lo lo' : Nat} {v : Value} {ns : List ByteArray} (hlo : lo' ≤ lo) (h : TV w lo v ns) (hk : Keeps lo w w') (hz : w.heap.size ≤ w'.heap.size) : TV w' lo' v ns := by
  obtain ⟨ao, cap, hv, h⟩ := h
  refine ⟨ao, cap, hv, ?_⟩
  rcases h with h | ⟨g, off, h1, h0, h2, h3⟩
  · exact .inl h
  · exact .inr ⟨g, off, h1, Nat.le_trans hlo h0, Nat.lt_of_lt_of_le h2 hz, fun i t hi => hk _ _ h0 (h3 i t hi)⟩
theorem TV.later {w w' : World} {lo : Nat} {v : Value} {ns : List ByteArray} (h : TV w lo v ns) (hb : Below w.heap.size w w') : TV w' lo v ns := h.same (Nat.le_refl _) (Keeps.later hb) hb.size
theorem TV.low {w : World} {lo : Nat} {v : Value} {ns : List ByteArray} (h : TV w lo v ns) : TV w 0 v ns := h.same (Nat.zero_le _) (Keeps.refl _ _) (Nat.le_refl _)
theorem TV.shape {w : World} {lo : Nat} {v : Value} {ns : List ByteArray} (h : TV w lo v ns) : ∃ a c, v = .slice a ns.length c := by obtain ⟨a, c, h1, _⟩ := h; exact ⟨a, c, h1⟩
theorem TV.of {w : World} {B : Nat} {v : Value} {ns : List ByteArray} (h : w.ownsRow B 9 1 v ns.length (ns.map Value.string)) : TV w B v ns := by
  rcases h.2 with ⟨h0, h1⟩ | ⟨g, cap, cur, h1, h2, h3, h4⟩
  · exact ⟨Option.none, 0, by rw [h1]; exact h0, .inl (List.length_eq_zero_iff.1 h1)⟩
  · refine ⟨_, cap, h1, .inr ⟨g, 0, rfl, h2, lt_heap h3, fun i t hi => ?_⟩⟩
    have hc := h.cells (g := g) (by rw [h1]; rfl) i (.string t) (by rw [List.getElem?_map, hi]; rfl)
    have e : (⟨g, 0, Option.none⟩ : Addr).add i = ⟨g, i, Option.none⟩ := by simp [Addr.add]; omega
    rw [e] at hc
    rw [Nat.zero_add]; exact hc
theorem infoStr : (Tryz.prog.info? 9).map (fun i => (i.zero, i.size, i.bytes)) = some (some (.string ⟨#[]⟩), 1, 16) := by kernel_rfl
theorem newT (w : World) (u : Value) (t : TypeId) : ∀ j x, [u][j]? = some x → (w.alloc (.cells #[u] t)).cell? ((⟨w.heap.size, 0, Option.none⟩ : Addr).add j) = some x := new1 w u t
/-- One name more. -/
theorem snocT {w w5 w6 : World} {os : List ByteArray} {t v' : Value} {x : ByteArray} {o : Obj} (hown : w5.ownsRow w.heap.size 9 1 t os.length (os.map Value.string)) (hb : Below w.heap.size w w5) (hg : (w5.alloc o).grownBy w6 t.ownBlock)
    (h : w6.ownsRow w.heap.size 9 1 v' (os.length + 1) (os.map Value.string ++ [.string x])) : w6.ownsRow w.heap.size 9 1 v' (os ++ [x]).length ((os ++ [x]).map Value.string) ∧ Below w.heap.size w w6 :=
  ⟨by rw [List.length_append, List.map_append]; exact h, (hb.alloc hb.size o).grown hg (by have := hb.size; simp; omega) (fun k hk => (hown.lt k hk).1)⟩
theorem ownShape {w : World} {B sz n : Nat} {e : TypeId} {v : Value} {xs : List Value} (h : w.ownsRow B e sz v n xs) : ∃ a c, v = .slice a n c := by
  rcases h.2 with ⟨h1, h0⟩ | ⟨g, cap, cur, h1, _⟩
  · exact ⟨_, _, by rw [h0]; exact h1⟩
  · exact ⟨_, _, h1⟩
theorem putR_x {s x : ByteArray} {r : List ByteArray} (d : Bool) (hd : d = true ∨ blt x s = true) (hx : ¬ x = s) : putR s d (x :: r) = x :: putR s d r := by
  cases d with
  | true => rw [putR, if_neg hx]
  | false => rcases hd with h | h
             · cases h
             · rw [putR, if_pos h, if_neg hx]
theorem putR_same {s : ByteArray} {r : List ByteArray} : putR s true (s :: r) = putR s true r := by rw [putR, if_pos rfl]
theorem putR_s {s x : ByteArray} {r : List ByteArray} (h : blt x s = false) : putR s false (x :: r) = s :: putR s true (x :: r) := by
  simp only [putR, h]; simp
set_option maxHeartbeats 2000000 in
set_option maxRecDepth 100000 in
theorem l4Put_is (ns : List ByteArray) (hn : ns.length ≤ 10000000) (s : ByteArray) (v : Value) (w : World) (hv : TV w 0 v ns) :
    Calls Tryz.prog 69 #[v, .string s] w fun e w' => ∃ v', e = .returned v' ∧ TV w' w.heap.size v' (putR s false ns) ∧ Below w.heap.size w w' := by
  obtain ⟨i0, hi0, hz0, hz1, hz2⟩ := info_parts infoStr
  obtain ⟨ao, cap, rfl, hr⟩ := hv
  have Hr := Lib.hid hr
  clear hr
  have hnI : (ns.length : Int) ≤ 10000000 := by omega
  go_enter Tryz.func69, Tryz.ntmps69
  go_wp2
  go_loopw [5, 6, 7] (fun out d i wr => ∃ (k : Nat) (dn : Bool) (os : List ByteArray), k ≤ ns.length ∧ i = .int .i64 k ∧ d = .bool dn ∧ Hid (os ++ putR s dn (ns.drop k) = putR s false ns ∧ os.length ≤ k + 1 ∧ (dn = false → os.length ≤ k)) ∧ wr.ownsRow w.heap.size 9 1 out os.length (os.map Value.string) ∧ Below w.heap.size w wr) (fun _ _ i _ => ns.length - (RowKit.intOf i).toNat)
  case atStart =>
    exact ⟨0, false, [], by omega, rfl, rfl, ⟨by simp, by simp, fun _ => by simp⟩, ⟨rfl, .inr ⟨w.heap.size, 0, #[], rfl, Nat.le_refl _, (by show (w.heap.push _)[w.heap.size]? = _; simp), Nat.le_refl _, (by unfold maxLen; omega), rfl, rfl⟩⟩, alloc_below _ _⟩
  case round =>
    obtain ⟨k, dn, os, hk, rfl, rfl, hg, hown, hbr⟩ := hrel
    obtain ⟨g1, g2, g3⟩ := hg.out
    obtain ⟨oa, oc, rfl⟩ := ownShape hown
    have hol : (os.length : Int) ≤ 10000001 := by omega
    by_cases hlt : k < ns.length
    · have hltI : (k : Int) < (ns.length : Int) := by omega
      obtain ⟨x, hx⟩ : ∃ x, ns[k]? = some x := ⟨ns[k], List.getElem?_eq_getElem hlt⟩
      rcases Hr.out with hr | ⟨g, off, rfl, _, gl, hc⟩
      · subst hr; simp at hlt
      have hsz := hbr.size
      have AW := Lib.hid (hc k x hx)
      have A0 := (hbr.cell (p := ⟨g, off + k, Option.none⟩) gl).trans AW.out
      have hd : ns.drop k = x :: ns.drop (k + 1) := by rw [List.drop_eq_getElem_cons hlt]; congr 1; rw [List.getElem?_eq_getElem hlt] at hx; injection hx
      rw [hd] at g1
      clear hc hx Hr hd hg
      by_cases hdb : dn = true ∨ blt x s = true
      · have G3 : Hid (dn = false → os.length ≤ k) := g3
        by_cases he : x = s
        · have hdn : dn = true := hdb.resolve_right (fun h => by rw [he, blt_irrefl] at h; cases h)
          subst hdn
          subst he
          rw [putR_same] at g1
          have G := Lib.hid (And.intro g1 g2)
          clear g1 g2 g3 hdb
          go_wp2
          go_roundw
          case rel => exact ⟨k + 1, true, os, by omega, by go_num, rfl, ⟨G.out.1, by have := G.out.2; omega, fun h => by cases h⟩, hown, hbr⟩
          case measure => simp [RowKit.intOf]; omega
        · rw [putR_x dn hdb he] at g1
          have G := Lib.hid (And.intro g1 g2)
          have hne := str_ne he
          have hcs : dn = true ∨ (dn = false ∧ Op.bytesLess x.toList s.toList = true) := by
            cases dn with
            | true => exact .inl rfl
            | false => exact .inr ⟨rfl, hdb.resolve_left (by simp)⟩
          clear g1 g2 g3 hdb he
          rcases hcs with rfl | ⟨rfl, hls⟩
          · go_wp2_with (at_builtin; refine wpList_append_own _ rfl _ _ 31 rfl w.heap.size 9 i0 _ 1 16 Tryz.underlying31 hi0 hz0 hz1 hz2 rfl (by decide) _ _ _ rfl (hown.alloc _) ⟨wr.heap.size, 0, Option.none⟩ 1 1 [.string x] rfl rfl (newT _ _ _) ?cb2 ?cb3 ?cb4 ?cb5 ?_)
            case cb2 => first | rfl | (intro x hx; simp only [List.mem_cons, List.not_mem_nil, or_false] at hx; subst hx; rfl)
            case cb3 => unfold maxLen; omega
            case cb4 => omega
            case cb5 => first | omega | (simp; omega)
            intro v' w6 hown' hgrow _
            obtain ⟨n1, n2⟩ := snocT hown hbr hgrow hown'
            clear hown' hgrow hown hbr A0
            go_wp2
            go_roundw
            case rel => exact ⟨k + 1, true, os ++ [x], by omega, by go_num, rfl, ⟨by rw [List.append_assoc]; exact G.out.1, by have := G.out.2; simp; omega, fun h => by cases h⟩, n1, n2⟩
            case measure => simp [RowKit.intOf]; omega
          · go_wp2_with (at_builtin; refine wpList_append_own _ rfl _ _ 31 rfl w.heap.size 9 i0 _ 1 16 Tryz.underlying31 hi0 hz0 hz1 hz2 rfl (by decide) _ _ _ rfl (hown.alloc _) ⟨wr.heap.size, 0, Option.none⟩ 1 1 [.string x] rfl rfl (newT _ _ _) ?cc2 ?cc3 ?cc4 ?cc5 ?_)
            case cc2 => first | rfl | (intro x hx; simp only [List.mem_cons, List.not_mem_nil, or_false] at hx; subst hx; rfl)
            case cc3 => unfold maxLen; omega
            case cc4 => omega
            case cc5 => first | omega | (simp; omega)
            intro v' w6 hown' hgrow _
            obtain ⟨n1, n2⟩ := snocT hown hbr hgrow hown'
            clear hown' hgrow hown hbr A0
            go_wp2
            go_roundw
            case rel => exact ⟨k + 1, false, os ++ [x], by omega, by go_num, rfl, ⟨by rw [List.append_assoc]; exact G.out.1, by have := G.out.2; simp; omega, fun _ => by have := G3.out (by simp); simp; omega⟩, n1, n2⟩
            case measure => simp [RowKit.intOf]; omega
      · have hdn : dn = false := by cases dn with | false => rfl | true => exact absurd (.inl rfl) hdb
        subst hdn
        have hbl : blt x s = false := by cases h : blt x s with | false => rfl | true => exact absurd (.inr h) hdb
        have hls : Op.bytesLess x.toList s.toList = false := hbl
        rw [putR_s hbl] at g1
        have g4 := g3 rfl
        clear hdb hbl g3
        by_cases he : x = s
        · subst he
          rw [putR_same] at g1
          have G := Lib.hid (And.intro g1 g4)
          clear g1 g2 g4
          go_wp2_with (at_builtin; refine wpList_append_own _ rfl _ _ 31 rfl w.heap.size 9 i0 _ 1 16 Tryz.underlying31 hi0 hz0 hz1 hz2 rfl (by decide) _ _ _ rfl (hown.alloc _) ⟨wr.heap.size, 0, Option.none⟩ 1 1 [.string x] rfl rfl (newT _ _ _) ?ce2 ?ce3 ?ce4 ?ce5 ?_)
          case ce2 => first | rfl | (intro x hx; simp only [List.mem_cons, List.not_mem_nil, or_false] at hx; subst hx; rfl)
          case ce3 => unfold maxLen; omega
          case ce4 => omega
          case ce5 => first | omega | (simp; omega)
          intro v' w6 hown' hgrow _
          obtain ⟨n1, n2⟩ := snocT hown hbr hgrow hown'
          have A6 := (n2.cell (p := ⟨g, off + k, Option.none⟩) gl).trans AW.out
          clear hown' hgrow hown hbr A0
          go_wp2
          go_roundw
          case rel => exact ⟨k + 1, true, os ++ [x], by omega, by go_num, rfl, ⟨by rw [List.append_assoc]; exact G.out.1, by have := G.out.2; simp; omega, fun h => by cases h⟩, n1, n2⟩
          case measure => simp [RowKit.intOf]; omega
        · have hne := str_ne he
          rw [putR_x true (.inl rfl) he] at g1
          have G := Lib.hid (And.intro g1 g4)
          clear g1 g2 he g4
          go_wp2_with (at_builtin; refine wpList_append_own _ rfl _ _ 31 rfl w.heap.size 9 i0 _ 1 16 Tryz.underlying31 hi0 hz0 hz1 hz2 rfl (by decide) _ _ _ rfl (hown.alloc _) ⟨wr.heap.size, 0, Option.none⟩ 1 1 [.string s] rfl rfl (newT _ _ _) ?cg2 ?cg3 ?cg4 ?cg5 ?_)
          case cg2 => first | rfl | (intro x hx; simp only [List.mem_cons, List.not_mem_nil, or_false] at hx; subst hx; rfl)
          case cg3 => unfold maxLen; omega
          case cg4 => omega
          case cg5 => first | omega | (simp; omega)
          intro v' w6 hown' hgrow _
          obtain ⟨n1, n2⟩ := snocT hown hbr hgrow hown'
          have A6 := (n2.cell (p := ⟨g, off + k, Option.none⟩) gl).trans AW.out
          have hs6 := n2.size
          obtain ⟨va, vc, rfl⟩ := ownShape n1
          have hol6 : ((os ++ [s]).length : Int) ≤ 10000002 := by simp; omega
          clear hown' hgrow hown hbr A0
          go_wp2_with (at_builtin; refine wpList_append_own _ rfl _ _ 31 rfl w.heap.size 9 i0 _ 1 16 Tryz.underlying31 hi0 hz0 hz1 hz2 rfl (by decide) _ _ _ rfl (n1.alloc _) ⟨w6.heap.size, 0, Option.none⟩ 1 1 [.string x] rfl rfl (newT _ _ _) ?cd2 ?cd3 ?cd4 ?cd5 ?_)
          case cd2 => first | rfl | (intro x hx; simp only [List.mem_cons, List.not_mem_nil, or_false] at hx; subst hx; rfl)
          case cd3 => unfold maxLen; omega
          case cd4 => omega
          case cd5 => first | omega | (simp; omega)
          intro v'' w7 hown'' hgrow2 _
          obtain ⟨m1, m2⟩ := snocT n1 n2 (o := .cells #[.string x] 9) (by simpa using hgrow2) (show w7.ownsRow w.heap.size 9 1 v'' ((os ++ [s]).length + 1) ((os ++ [s]).map Value.string ++ [.string x]) by simpa using hown'')
          clear hown'' hgrow2 n1 n2 A6
          go_wp2
          go_roundw
          case rel => exact ⟨k + 1, true, os ++ [s] ++ [x], by omega, by go_num, rfl, ⟨by rw [List.append_assoc, List.append_assoc]; exact G.out.1, by have := G.out.2; simp; omega, fun h => by cases h⟩, m1, m2⟩
          case measure => simp [RowKit.intOf]; omega
    · have hkk : ns.drop k = [] := List.drop_of_length_le (by omega)
      rw [hkk] at g1
      cases dn with
      | true =>
        have G := Lib.hid (show os = putR s false ns by simpa [putR] using g1)
        clear g1 hg
        go_wp2
        go_ret
        exact ⟨_, rfl, by rw [← G.out]; exact TV.of hown, hbr⟩
      | false =>
        have G := Lib.hid (show os ++ [s] = putR s false ns by simpa [putR] using g1)
        have hsz := hbr.size
        clear g1 hg
        go_wp2_with (at_builtin; refine wpList_append_own _ rfl _ _ 31 rfl w.heap.size 9 i0 _ 1 16 Tryz.underlying31 hi0 hz0 hz1 hz2 rfl (by decide) _ _ _ rfl (hown.alloc _) ⟨wr.heap.size, 0, Option.none⟩ 1 1 [.string s] rfl rfl (newT _ _ _) ?cf2 ?cf3 ?cf4 ?cf5 ?_)
        case cf2 => first | rfl | (intro x hx; simp only [List.mem_cons, List.not_mem_nil, or_false] at hx; subst hx; rfl)
        case cf3 => unfold maxLen; omega
        case cf4 => omega
        case cf5 => first | omega | (simp; omega)
        intro v' w6 hown' hgrow _
        obtain ⟨n1, n2⟩ := snocT hown hbr hgrow hown'
        clear hown' hgrow hown hbr
        go_wp2
        go_ret
        exact ⟨_, rfl, by rw [← G.out]; exact TV.of n1, n2⟩
end Go.Proofs.YtkilmefpaojkfaaGreat
/-
  strings.ContainsRune over the marks, at every rune that a text holds: below 128 it asks for the byte, above it answers false.
-/
set_option linter.unusedSimpArgs false
namespace Go.Proofs.YtkilmefpaojkfaaGreat
open Go.RowKit Go.Lib

set_option maxHeartbeats 1000000 in
set_option maxRecDepth 100000 in
theorem slite_IndexByte (s : ByteArray) (c : Int) (w : World) :
    Calls Tryz.prog 150 #[.string s, .int .u8 c] w fun e w' => e = .returned (.int .i64 (firstIdx s c.toNat.toUInt8)) ∧ w = w' := by
  go_enter Tryz.func150, Tryz.ntmps150
  go_wp2
  rw [run_callFunc_extern Tryz.func151 (by kernel_rfl) (by kernel_rfl) (by kernel_rfl) (e := Extern.BytealgIndexByte.indexByte) (by kernel_rfl), run_indexByte_string]
  simp only [Result.andThen]
  rw [Oper.upon_value]
  go_wp2
  go_ret
  exact ⟨rfl, rfl⟩
set_option maxHeartbeats 1000000 in
theorem strings_IndexByte (s : ByteArray) (c : Int) (w : World) :
    Calls Tryz.prog 143 #[.string s, .int .u8 c] w fun e w' => e = .returned (.int .i64 (firstIdx s c.toNat.toUInt8)) ∧ w = w' := by
  go_enter Tryz.func143, Tryz.ntmps143
  go_wp2_with (go_at_call 150; refine (slite_IndexByte _ _ _).mono ?_; rintro e w' ⟨rfl, rfl⟩)
  go_ret
  exact ⟨rfl, rfl⟩

set_option maxHeartbeats 1000000 in
set_option maxRecDepth 100000 in
theorem IndexRune_ascii (s : ByteArray) (r : Int) (w : World) (h0 : 0 ≤ r) (h1 : r < 128) :
    Calls Tryz.prog 138 #[.string s, .int .i32 r] w fun e w' => e = .returned (.int .i64 (firstIdx s r.toNat.toUInt8)) ∧ w = w' := by
  go_enter Tryz.func138, Tryz.ntmps138
  go_wp2_with (go_at_call 143; refine (strings_IndexByte _ _ _).mono ?_; rintro e w' ⟨rfl, rfl⟩)
  go_ret
  exact ⟨rfl, rfl⟩

set_option maxHeartbeats 1000000 in
theorem ContainsRune_ascii (s : ByteArray) (r : Int) (w : World) (h0 : 0 ≤ r) (h1 : r < 128) :
    Calls Tryz.prog 128 #[.string s, .int .i32 r] w fun e w' => e = .returned (.bool (s.data.toList.any (· == r.toNat.toUInt8))) ∧ w = w' := by
  go_enter Tryz.func128, Tryz.ntmps128
  go_wp2_with (go_at_call 138; refine (IndexRune_ascii _ _ _ h0 h1).mono ?_; rintro e w' ⟨rfl, rfl⟩)
  go_ret
  exact ⟨by rw [← firstIdx_nonneg]; rfl, rfl⟩

/-- Every byte of this text is below 128. -/
def Asci (s : ByteArray) : Prop := ∀ b ∈ s.data.toList, b.toNat < 128
set_option maxHeartbeats 2000000 in
set_option maxRecDepth 100000 in
theorem IndexRune_error (s : ByteArray) (hs : Asci s) (w : World) :
    Calls Tryz.prog 138 #[.string s, .int .i32 65533] w fun e w' => e = .returned (.int .i64 (-1)) ∧ Below w.heap.size w w' := by
  go_enter Tryz.func138, Tryz.ntmps138
  go_wp2
  go_loopw [] (fun wr => ∃ pos, pos ≤ s.size ∧ wr = w.iter s pos) (fun wr => s.size - wr.iterPos w.heap.size)
  case atStart => exact ⟨0, by omega, rfl⟩
  case round =>
    obtain ⟨pos, hpos, rfl⟩ := hrel
    by_cases hp : pos < s.size
    · have ha : (s[pos]'hp).toNat < 128 := hs _ (Array.getElem_mem_toList (xs := s.data) hp)
      have hnx : ∀ ty, (Instr.next (.pointer (some ⟨w.heap.size, 0, none⟩)) true ty).run Tryz.prog (w.iter s pos) = _ := fun ty => run_next_ascii w s pos ty hp ha
      have hne : ¬ ((s[pos]'hp).toNat : Int) = 65533 := by omega
      go_wp2
      go_roundw
      case rel => exact ⟨pos + 1, by omega, rfl⟩
      case measure => simp [World.iterPos, World.iter_heap]; omega
    · have hnx : ∀ ty, (Instr.next (.pointer (some ⟨w.heap.size, 0, none⟩)) true ty).run Tryz.prog (w.iter s pos) = _ := fun ty => run_next_end w s pos ty hp
      go_wp2
      go_ret
      exact ⟨rfl, (Below.refl _ w).alloc (Nat.le_refl _) _⟩
theorem IndexByte_none (s : ByteArray) (c : UInt8) (hs : Asci s) (hc : 128 ≤ c.toNat) (a e n : Nat) (w : World) :
    Calls Tryz.prog 143 #[.string (s.extract a e), .int .u8 c.toNat] (w.drewN n) fun x w' => x = .returned (.int .i64 (-1)) ∧ w' = w.drewN n := by
  refine (strings_IndexByte _ _ _).mono ?_
  rintro x w' ⟨rfl, rfl⟩
  refine ⟨?_, rfl⟩
  have : ((c.toNat : Int)).toNat.toUInt8 = c := by simp
  rw [this, firstIdx_ascii s a e c hs hc]
theorem ValidRune_is (r : Int) (h0 : 0 ≤ r) (h1 : r ≤ 1114111) (b : Bool) (hb : Utf8.valid r = b) (w : World) :
    Calls Tryz.prog 144 #[.int .i32 r] w fun e w' => e = .returned (.bool b) ∧ w = w' := by
  subst hb
  have e : Utf8.valid r = (decide (r < 55296) || decide (57343 < r)) := by
    rw [validRune_eq]; unfold validRune
    by_cases h : r < 55296 <;> by_cases h' : 57343 < r <;> simp [h, h', h0, h1] <;> omega
  rw [e]
  by_cases h : r < 55296
  · go_enter Tryz.func144, Tryz.ntmps144
    go_wp2
    go_ret
    exact ⟨by simp [h], rfl⟩
  · by_cases h' : 57343 < r
    · go_enter Tryz.func144, Tryz.ntmps144
      go_wp2
      go_ret
      exact ⟨by simp [h, h'], rfl⟩
    · go_enter Tryz.func144, Tryz.ntmps144
      go_wp2
      go_ret
      exact ⟨by simp [h, h'], rfl⟩
set_option maxHeartbeats 4000000 in
set_option maxRecDepth 100000 in
theorem IndexRune_high (s : ByteArray) (hs : Asci s) (hl : s.size ≤ 1000000) (r : Int) (h0 : 128 ≤ r) (h1 : r ≤ 1114111) (hne : ¬ r = 65533) (w : World) :
    Calls Tryz.prog 138 #[.string s, .int .i32 r] w fun e w' => e = .returned (.int .i64 (-1)) ∧ Below w.heap.size w w' := by
  by_cases hv : Utf8.valid r = true
  · obtain ⟨e1, e2, e3⟩ := encode_facts r hv h0
    have hcv : ∀ w, (convert 21 9 (.int .i32 r)).run Tryz.prog w = .ok (.string (Utf8.encode r)) w := fun w => run_convert_int_string w _ _ _ _ (by rw [Tryz.underlying21]; rfl) Tryz.underlying9
    have hV := Lib.hid hv
    generalize Utf8.encode r = E at e1 e2 e3 hcv
    have h3 := e3 (by omega)
    clear e3 hv
    obtain ⟨n, hn⟩ : ∃ n, E.size = n + 1 := ⟨E.size - 1, by omega⟩
    have hnE : n < E.size := by omega
    have h4 : 128 ≤ (E[n]'hnE).toNat := by
      have e : ∀ m (hm : m < E.size), m = n → (E[m]'hm).toNat = (E[n]'hnE).toNat := by intro m hm e; subst e; rfl
      rw [← e (E.size - 1) (by omega) (by omega)]; exact h3
    clear h3
    go_enter Tryz.func138, Tryz.ntmps138
    go_wp2_with (go_at_call 144; refine (ValidRune_is r (by omega) h1 true hV.out _).mono ?_; rintro e w' ⟨rfl, rfl⟩)
    go_step3
    go_wp2
    go_loop [9, 10] (fun i f => i = .int .i64 (n : Int) ∧ f = .int .i64 0) (fun _ _ => 0)
    case atStart => exact ⟨by go_num, rfl⟩
    case round =>
      obtain ⟨rfl, rfl⟩ := hrel
      clear hn
      by_cases hp : n < s.size
      · have ha : (s[n]'hp).toNat < 128 := hs _ (Array.getElem_mem_toList (xs := s.data) hp)
        have hneq : ¬ ((s[n]'hp).toNat : Int) = ((E[n]'hnE).toNat : Int) := by omega
        have hpI : (n : Int) < (s.size : Int) := by omega
        have hnI : (n : Int) < (E.size : Int) := by omega
        have hwr : IntKind.i64.wrap ((n : Int) + 1) = (n : Int) + 1 := wrap_small _ (by omega) (by omega)
        have hsl : ∀ w, (Instr.slice 9 (.string s) (some (.int .i64 ((n : Int) + 1))) Option.none Option.none).run Tryz.prog w = .ok (.string (s.extract (n + 1) s.size)) w := by
          intro w
          rw [run_slice_string_from_if w _ _ _ _ Tryz.underlying9, if_pos ⟨by omega, by omega⟩]
          rfl
        go_wp2
        go_step3
        go_wp2
        go_quiet (fail)
        go_wp2
        go_quiet (exact (IndexByte_none s E[n] hs h4 _ _ _ w).mono fun _ _ h => ⟨h.1, _, h.2⟩)
        go_wp2
        rw [Exit.noGoto_ret]
        go_wp2
        rw [Exit.noGoto_ret]
        go_wp2
        go_ret
        exact ⟨rfl, ⟨rfl, rfl, rfl, Nat.le_refl _, fun _ _ => rfl⟩⟩
      · go_wp2
        go_ret
        exact ⟨rfl, Below.refl _ _⟩
  · have hV := Lib.hid (by simpa using hv : Utf8.valid r = false)
    clear hv
    go_enter Tryz.func138, Tryz.ntmps138
    go_wp2_with (go_at_call 144; refine (ValidRune_is r (by omega) h1 false hV.out _).mono ?_; rintro e w' ⟨rfl, rfl⟩)
    go_ret
    exact ⟨rfl, Below.refl _ _⟩
set_option maxHeartbeats 1000000 in
/-- Above 128 nothing is found in a text of bytes below 128. -/
theorem ContainsRune_high (s : ByteArray) (hs : Asci s) (hl : s.size ≤ 1000000) (r : Int) (h0 : 128 ≤ r) (h1 : r ≤ 1114111) (w : World) :
    Calls Tryz.prog 128 #[.string s, .int .i32 r] w fun e w' => e = .returned (.bool false) ∧ Below w.heap.size w w' := by
  have hI : Calls Tryz.prog 138 #[.string s, .int .i32 r] w fun e w' => e = .returned (.int .i64 (-1)) ∧ Below w.heap.size w w' := by
    by_cases he : r = 65533
    · subst he; exact IndexRune_error s hs w
    · exact IndexRune_high s hs hl r h0 h1 he w
  go_enter Tryz.func128, Tryz.ntmps128
  go_wp2_with (go_at_call 138; refine hI.mono ?_; rintro e w' ⟨rfl, hb⟩)
  go_ret
  exact ⟨rfl, hb⟩
end Go.Proofs.YtkilmefpaojkfaaGreat
