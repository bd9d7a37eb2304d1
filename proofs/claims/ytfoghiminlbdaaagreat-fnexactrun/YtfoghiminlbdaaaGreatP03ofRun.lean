/-
  Texts in one: AstPOpen, AstVis, IntRow, IntRows.
-/
import Derived.Test.YtfoghiminlbdaaaGreatP00ofRun
import Derived.Test.YtfoghiminlbdaaaGreatP02ofRun
import Derived.Deep.LoopGhost
import Derived.Deep.RegionWith
import Derived.Deep.Cut
import Derived.Deep.CutRange
namespace Go.Proofs.YtfoghiminlbdaaaGreat
open Go.ChangeShapes Go.WideShapes Go.ChangeAt Go.RowKit
set_option linter.unusedSimpArgs false
set_option linter.unusedVariables false
theorem cA : Tryz.prog.cellsOf 158 = 2 := by kernel_rfl
theorem cP : Tryz.prog.cellsOf 53 = 2 := by kernel_rfl
theorem cAs : Tryz.prog.cellsOf 50 = 1 := by kernel_rfl
section
variable {H : Type} {enc : TypeId × Value → H} {W : World} {sp : Nat → Bool} {held : Bool}
set_option maxRecDepth 100000 in
theorem open_arr {fuel : Nat} {cs : List Value} {y : DataW H × List MemPlace} (h : DataW.trod enc Tryz.prog W 0 sp held fuel 158 cs = some y) : ∃ t : AR, cs = [.string t.s, .int .i64 t.n] ∧ t.s.size ≤ 9223372036854775807 := by
  obtain ⟨xs, m, hm, _, hlen, hxl, hf⟩ := DataW.trod_struct Tryz.underlying158 h
  rw [cA] at hlen
  match xs, hxl, cs, hlen with
  | [y0, y1], _, [v0, v1], _ =>
    have g0 := hf 0 _ rfl
    have g1 := hf 1 _ rfl
    simp [cI, cT] at g0 g1
    obtain ⟨s, e0, _, hs⟩ := DataW.trod_string Tryz.underlying9 g0
    obtain ⟨n, e1, _, _⟩ := DataW.trod_int Tryz.underlying3 g1
    injection e0 with e0; injection e1 with e1
    subst e0; subst e1
    exact ⟨⟨s, n⟩, rfl, by unfold maxLen at hs; show s.size ≤ _; omega⟩
theorem build_arrs {b o len : Nat} (each : ∀ i, i < len → ∃ t : AR, t.s.size ≤ 9223372036854775807 ∧ W.cell? ⟨b, o + i * 2, Option.none⟩ = some (.string t.s) ∧ W.cell? ⟨b, o + i * 2 + 1, Option.none⟩ = some (.int .i64 t.n)) :
    ∀ d, d ≤ len → ∃ R : List AR, R.length = d ∧ (∀ t ∈ R, t.s.size ≤ 9223372036854775807) ∧ ∀ i t, R[i]? = some t → W.cell? ⟨b, o + i * 2, Option.none⟩ = some (.string t.s) ∧ W.cell? ⟨b, o + i * 2 + 1, Option.none⟩ = some (.int .i64 t.n)
  | 0, _ => ⟨[], rfl, fun _ h => by simp at h, fun i t h => by simp at h⟩
  | d + 1, hd => by
    obtain ⟨R, h1, h2, h3⟩ := build_arrs each d (by omega)
    obtain ⟨t, k, c0, c1⟩ := each d (by omega)
    refine ⟨R ++ [t], by simp [h1], fun u hu => ?_, fun i u hu => ?_⟩
    · rcases List.mem_append.1 hu with hu | hu
      · exact h2 u hu
      · simp only [List.mem_cons, List.not_mem_nil, or_false] at hu; subst hu; exact k
    · rcases Nat.lt_or_ge i R.length with hi | hi
      · rw [List.getElem?_append_left hi] at hu; exact h3 i u hu
      · rw [List.getElem?_append_right hi] at hu
        have hi2 : i = d := by have := (List.getElem?_eq_some_iff.1 hu).1; simp at this; omega
        subst hi2
        rw [h1, Nat.sub_self] at hu
        simp at hu; subst hu; exact ⟨c0, c1⟩
theorem open_arrs {fuel : Nat} {cs : List Value} {x : DataW H × List MemPlace} (h : DataW.trod enc Tryz.prog W 0 sp held fuel 50 cs = some x) : ∃ (v : Value) (ts : List AR), cs = [v] ∧ (∀ t ∈ ts, t.s.size ≤ 9223372036854775807) ∧ ts.length ≤ 9223372036854775807 ∧ AV W 0 v ts := by
  rcases DataW.trod_slice Tryz.underlying50 h with ⟨rfl, _⟩ | ⟨a, len, cap, elems, rest, n, hn, rfl, _, _, hl, hmx, hlen, hel, _, _⟩
  · exact ⟨_, [], rfl, fun _ h => by simp at h, by simp, _, _, rfl, .inl rfl⟩
  · rw [cA] at hel
    have each : ∀ i, i < len → ∃ (cs' : List Value) (y : DataW H × List MemPlace), W.cells? 0 (a.add (i * 2)) 2 = some cs' ∧ DataW.trod enc Tryz.prog W 0 sp held n 158 cs' = some y := fun i hi => by
      have h1 := hel i hi
      rw [List.getElem?_eq_getElem (by omega), Option.bind_eq_some_iff] at h1
      obtain ⟨cs', h2, h3⟩ := h1
      exact ⟨cs', _, h2, h3⟩
    rcases Nat.eq_zero_or_pos len with h0 | h0
    · subst h0; exact ⟨_, [], rfl, fun _ h => by simp at h, by simp, _, _, rfl, .inl rfl⟩
    · have each2 : ∀ i, i < len → ∃ t : AR, t.s.size ≤ 9223372036854775807 ∧ ∀ j u, [Value.string t.s, .int .i64 t.n][j]? = some u → W.cell? ((a.add (i * 2)).add j) = some u := fun i hi => by
        obtain ⟨cs', y, h1, h2⟩ := each i hi
        obtain ⟨_, hc, hcell⟩ := World.cells?_some h1
        obtain ⟨t, rfl, k1⟩ := open_arr h2
        refine ⟨t, k1, fun j u hj => ?_⟩
        have hj4 : j < 2 := by have := (List.getElem?_eq_some_iff.1 hj).1; simpa using this
        rw [hcell j hj4]; exact hj
      obtain ⟨b, off, spot⟩ := a
      have hsp : spot = Option.none := by
        obtain ⟨x, _, hc⟩ := each2 0 h0
        have := World.cell?_spot (hc 0 _ rfl)
        simpa [Addr.add] using this
      subst hsp
      have e : ∀ i j, ((⟨b, off, Option.none⟩ : Addr).add i).add j = ⟨b, off + i + j, Option.none⟩ := fun i j => by rw [add_plain, add_plain]
      obtain ⟨R, r1, r2, r3⟩ := build_arrs (W := W) (b := b) (o := off) (len := len) (fun i hi => by
        obtain ⟨t, k1, hc⟩ := each2 i hi
        have c0 := hc 0 _ rfl; have c1 := hc 1 _ rfl
        rw [e] at c0 c1
        exact ⟨t, k1, c0, c1⟩) len (Nat.le_refl _)
      have hlt : b < W.heap.size := by
        obtain ⟨t, _, hc⟩ := each2 0 h0
        have := hc 0 _ rfl
        rw [e] at this
        exact lt_of_cellA this
      refine ⟨_, R, rfl, r2, by unfold maxLen at hmx; omega, _, cap, by rw [r1], .inr ⟨b, off, rfl, Nat.zero_le _, hlt, r3⟩⟩
set_option maxRecDepth 100000 in
theorem open_prog {fuel : Nat} {cs : List Value} {y : DataW H × List MemPlace} (h : DataW.trod enc Tryz.prog W 0 sp held fuel 53 cs = some y) :
    ∃ (ts : List AR) (F : SF) (va vb : Value), cs = [va, vb] ∧ (∀ t ∈ ts, t.s.size ≤ 9223372036854775807) ∧ ts.length ≤ 9223372036854775807 ∧ sok F ∧ slen F ≤ 9223372036854775807 ∧ AV W 0 va ts ∧ SV W 0 F vb := by
  obtain ⟨xs, m, hm, _, hlen, hxl, hf⟩ := DataW.trod_struct Tryz.underlying53 h
  rw [cP] at hlen
  match xs, hxl, cs, hlen with
  | [y0, y1], _, [v0, v1], _ =>
    have g0 := hf 0 _ rfl
    have g1 := hf 1 _ rfl
    simp [cAs, cSs] at g0 g1
    obtain ⟨va, ts, e0, k1, k2, k3⟩ := open_arrs g0
    obtain ⟨vb, F, e1, j1, j2, j3⟩ := open_stmts _ _ _ g1
    injection e0 with e0; injection e1 with e1
    subst e0; subst e1
    exact ⟨ts, F, v0, v1, rfl, k1, k2, j1, j2, k3, j3⟩
end
theorem sizeLP : (Tryz.prog.info? 53).map (·.size) = some 2 := by kernel_rfl
theorem sizeIP : (Tryz.prog.info? 27).map (·.size) = some 2 := by kernel_rfl
structure Pt (w0 w : World) (n : Nat) (va vb : Value) (ts : List AR) (F : SF) : Prop where
  rg : w.rangeAt n 0 [va, vb]
  av : AV w 0 va ts
  sv : SV w 0 F vb
  low : Below w0.heap.size w0 w
theorem Pt.later {w0 w w' : World} {n : Nat} {va vb : Value} {ts : List AR} {F : SF} (h : Pt w0 w n va vb ts F) (hb : Below w.heap.size w w') : Pt w0 w' n va vb ts F :=
  ⟨rangeAt_later h.rg hb, h.av.later hb, h.sv.later hb, h.low.trans (hb.mono h.low.size)⟩
theorem Pt.start {w : World} (t : TypeId) {va vb : Value} {ts : List AR} {F : SF} (ha : AV w 0 va ts) (hb : SV w 0 F vb) : Pt w (w.alloc (.cells #[va, vb] t)) w.heap.size va vb ts F :=
  ⟨blk_range (arr := #[va, vb]) (heap_last _ _), ha.later (alloc_below _ _), hb.later (alloc_below _ _), alloc_below _ _⟩
theorem oneP {a b : Value} (ha : a.oneCell' = true) (hb : b.oneCell' = true) : (#[a, b] : Array Value).all (·.oneCell') = true :=
  all_oneCell_toArray (cs := [a, b]) (fun v hv => by
    simp only [List.mem_cons, List.not_mem_nil, or_false] at hv
    rcases hv with rfl | rfl <;> assumption)
theorem AV.isOne {w : World} {lo : Nat} {v : Value} {ts : List AR} (h : AV w lo v ts) : v.oneCell' = true := by obtain ⟨a, c, rfl⟩ := h.shape; rfl
end Go.Proofs.YtfoghiminlbdaaaGreat
namespace Go.Proofs.YtfoghiminlbdaaaGreat
open Go.RowKit Go.Lib
set_option linter.unusedSimpArgs false
set_option linter.unusedVariables false
theorem lt_heap {w : World} {g : Nat} {o : Obj} (h : w.heap[g]? = some o) : g < w.heap.size := (Array.getElem?_eq_some_iff.1 h).1
theorem ownB {w w' : World} {B sz n : Nat} {e : TypeId} {v : Value} {xs : List Value} (h : w.ownsRow B e sz v n xs) (hb : Below w.heap.size w w') : w'.ownsRow B e sz v n xs := by
  refine ⟨h.1, ?_⟩
  rcases h.2 with h0 | ⟨g, cap, cur, h1, h2, h3, h4⟩
  · exact .inl h0
  · exact .inr ⟨g, cap, cur, h1, h2, (hb.block g (lt_heap h3)).trans h3, h4⟩
theorem own_some {w : World} {B sz n : Nat} {e : TypeId} {v : Value} {xs : List Value} (h : w.ownsRow B e sz v (n + 1) xs) : ∃ g cap, v = .slice (some ⟨g, 0, Option.none⟩) (n + 1) cap ∧ n + 1 ≤ cap ∧ cap ≤ maxLen ∧ B ≤ g ∧ g < w.heap.size := by
  rcases h.2 with ⟨_, h0⟩ | ⟨g, cap, cur, h1, h2, h3, h4, h5, _⟩
  · cases h0
  · exact ⟨g, cap, h1, h4, h5, h2, lt_heap h3⟩
theorem own_none {w : World} {B sz : Nat} {e : TypeId} {v : Value} {xs : List Value} (h : w.ownsRow B e sz v 0 xs) : ∃ a cap, v = .slice a 0 cap := by
  rcases h.2 with ⟨h1, h0⟩ | ⟨g, cap, cur, h1, _⟩
  · exact ⟨_, _, h1⟩
  · exact ⟨_, _, h1⟩
theorem own_pop {w : World} {B sz n g cap : Nat} {e : TypeId} {xs ys : List Value} (h : w.ownsRow B e sz (.slice (some ⟨g, 0, Option.none⟩) (n + 1) cap) (n + 1) (xs ++ ys)) (hx : xs.length = n * sz) : w.ownsRow B e sz (.slice (some ⟨g, 0, Option.none⟩) n cap) n xs := by
  refine ⟨hx, ?_⟩
  rcases h.2 with ⟨h0, _⟩ | ⟨g', cap', cur, h1, h2, h3, h4, h5, h6, h7⟩
  · cases h0
  · injection h1 with e1 e2 e3
    subst e3
    refine .inr ⟨g, cap, cur, rfl, ?_, ?_, by omega, h5, h6, ?_⟩
    · injection e1 with e1; injection e1 with e1; subst e1; exact h2
    · injection e1 with e1; injection e1 with e1; subst e1; exact h3
    · have := congrArg (List.take (n * sz)) h7
      rw [List.take_take, Nat.min_eq_left (Nat.mul_le_mul_right sz (Nat.le_succ n)), List.take_append_of_le_length (by omega)] at this
      rw [this, List.take_of_length_le (by omega)]
theorem own_cell {w : World} {B sz n g cap : Nat} {e : TypeId} {xs : List Value} (h : w.ownsRow B e sz (.slice (some ⟨g, 0, Option.none⟩) n cap) n xs) {j : Nat} {u : Value} (hu : xs[j]? = some u) : w.cell? ⟨g, j, Option.none⟩ = some u := by
  have hc := h.cells (g := g) rfl j u hu
  have e1 : (⟨g, 0, Option.none⟩ : Addr).add j = ⟨g, j, Option.none⟩ := by simp [Addr.add]; omega
  rwa [e1] at hc
abbrev TdS := List (SF × Value)
theorem newblk {w W : World} {arr : Array Value} {t : TypeId} {vs : List Value} (hn : vs.length ≤ arr.size) (hW : (w.alloc (.cells arr t)).setCells w.heap.size 0 vs = W) : W.rangeAt w.heap.size 0 vs ∧ Below w.heap.size w W := by
  have e : (w.alloc (.cells arr t)).heap[w.heap.size]? = some (.cells arr t (0, 0)) := by show (w.heap.push _)[w.heap.size]? = _; simp
  subst hW
  exact ⟨World.rangeAt_setCells_same _ _ _ _ (blk_there e hn), below_sets _ _ (alloc_below _ _) (Nat.le_refl _)⟩
theorem newthere (w : World) (t : TypeId) : (w.alloc (.cells zero19 t)).there w.heap.size 0 19 := blk_there (arr := zero19) (t := t) (by show (w.heap.push _)[w.heap.size]? = _; simp) (Nat.le_refl 19)
theorem new1 (w : World) (u : Value) (t : TypeId) : ∀ j x, [u][j]? = some x → (w.alloc (.cells #[u] t)).cell? ((⟨w.heap.size, 0, Option.none⟩ : Addr).add j) = some x := by
  intro j x h
  have e : (w.alloc (.cells #[u] t)).heap[w.heap.size]? = some (.cells #[u] t (0, 0)) := by show (w.heap.push _)[w.heap.size]? = _; simp
  match j, h with
  | 0, h =>
    have e0 : (⟨w.heap.size, 0, Option.none⟩ : Addr).add 0 = ⟨w.heap.size, 0, Option.none⟩ := by simp [Addr.add]
    rw [e0]; simp only [World.cell?, e]; simpa using h
  | j + 1, h => simp at h
theorem newblkS {w W : World} {t : TypeId} (h : SH) (v1 v2 v3 v4 v : Value) (hW : (w.alloc (.cells zero19 t)).setCells w.heap.size 0 (scells h v1 v2 v3 v4 v) = W) : W.rangeAt w.heap.size 0 (scells h v1 v2 v3 v4 v) ∧ Below w.heap.size w W := newblk (arr := zero19) (Nat.le_refl 19) hW
theorem infoSS : (Tryz.prog.info? 25).map (fun i => (i.zero, i.size, i.bytes)) = some (some (.slice Option.none 0 0), 1, 24) := by kernel_rfl
abbrev zero4 : Array Value := #[.int .i64 0, .int .i64 0, .string ⟨#[]⟩, .slice Option.none 0 0]
theorem newthere4 (w : World) (t : TypeId) : (w.alloc (.cells zero4 t)).there w.heap.size 0 4 := blk_there (arr := zero4) (t := t) (by show (w.heap.push _)[w.heap.size]? = _; simp) (Nat.le_refl 4)
theorem newblk4 {w W : World} {t : TypeId} (x : X) (v : Value) (hW : (w.alloc (.cells zero4 t)).setCells w.heap.size 0 (xcells x v) = W) : W.rangeAt w.heap.size 0 (xcells x v) ∧ Below w.heap.size w W := newblk (arr := zero4) (Nat.le_refl 4) hW
structure Gap (lo hi : Nat) (w w' : World) : Prop where
  os : w'.os = w.os
  tape : w'.tape = w.tape
  output : w'.output = w.output
  size : w.heap.size ≤ w'.heap.size
  block : ∀ k, k < w.heap.size → (k < lo ∨ hi ≤ k) → w'.heap[k]? = w.heap[k]?
theorem Gap.refl (lo hi : Nat) (w : World) : Gap lo hi w w := ⟨rfl, rfl, rfl, Nat.le_refl _, fun _ _ _ => rfl⟩
theorem Gap.trans {lo hi : Nat} {w w1 w2 : World} (h : Gap lo hi w w1) (g : Gap lo hi w1 w2) : Gap lo hi w w2 :=
  ⟨g.os.trans h.os, g.tape.trans h.tape, g.output.trans h.output, Nat.le_trans h.size g.size, fun k hk hc => (g.block k (Nat.lt_of_lt_of_le hk h.size) hc).trans (h.block k hk hc)⟩
theorem Gap.of (lo hi : Nat) {w w' : World} (h : Below w.heap.size w w') : Gap lo hi w w' := ⟨h.os, h.tape, h.output, h.size, fun k hk _ => h.block k hk⟩
theorem Gap.below {lo hi n : Nat} {w w' : World} (h : Gap lo hi w w') (hn : n ≤ lo) (hw : n ≤ w.heap.size) : Below n w w' := ⟨h.os, h.tape, h.output, h.size, fun k hk => h.block k (by omega) (.inl (by omega))⟩
theorem Gap.wider {lo hi lo' hi' : Nat} {w w' : World} (h : Gap lo hi w w') (h1 : lo' ≤ lo) (h2 : hi ≤ hi') : Gap lo' hi' w w' := ⟨h.os, h.tape, h.output, h.size, fun k hk hc => h.block k hk (by omega)⟩
theorem ownM {w w' : World} {lo hi B sz n : Nat} {e : TypeId} {v : Value} {xs : List Value} (h : w.ownsRow B e sz v n xs) (hb : Gap lo hi w w') (hB : hi ≤ B) : w'.ownsRow B e sz v n xs := by
  refine ⟨h.1, ?_⟩
  rcases h.2 with h0 | ⟨g, cap, cur, h1, h2, h3, h4⟩
  · exact .inl h0
  · exact .inr ⟨g, cap, cur, h1, h2, (hb.block g (lt_heap h3) (.inr (by omega))).trans h3, h4⟩
def Quiet {α : Type} (lo hi : Nat) (J : List α → World → Prop) : Prop := ∀ vs w1 w2, J vs w1 → w1.heap.size ≤ w2.heap.size → (∀ k, lo ≤ k → k < hi → w2.heap[k]? = w1.heap[k]?) → J vs w2
theorem Quiet.below {α : Type} {lo hi : Nat} {J : List α → World → Prop} (q : Quiet lo hi J) {vs : List α} {w1 w2 : World} (h : J vs w1) (hh : hi ≤ w1.heap.size) (hb : Below w1.heap.size w1 w2) : J vs w2 := q vs w1 w2 h hb.size fun k _ hk => hb.block k (by omega)
abbrev SN := SH × SF
def sall : SF → List SN
  | .nil => []
  | .node _ _ h l r => (h, l) :: (sall l ++ sall r)
theorem sall_len : ∀ F : SF, (sall F).length = snodes F
  | .nil => rfl
  | .node _ _ h l r => by have := sall_len l; have := sall_len r; simp only [sall, snodes, List.length_cons, List.length_append]; omega
def tall : TdS → List SN
  | [] => []
  | p :: r => sall p.1 ++ tall r
theorem tall_app (a b : TdS) : tall (a ++ b) = tall a ++ tall b := by
  induction a with
  | nil => rfl
  | cons p a ih => simp only [List.cons_append, tall, ih, List.append_assoc]
structure VisS (w : World) (F : SF) (td : TdS) (vs : List SN) (m : Nat) : Prop where
  all : ∀ p ∈ td, SV w 0 p.1 p.2
  perm : (vs ++ tall td).Perm (sall F)
  len : td.length + (tall td).length = m
  big : m ≤ snodes F + 1
structure VisR (w : World) (F : SF) (td : TdS) (vs : List SN) (m : Nat) (R G : SF) (k b o : Nat) : Prop where
  all : ∀ p ∈ td, SV w 0 p.1 p.2
  perm : (vs ++ (tall td ++ sall R)).Perm (sall F)
  len : td.length + (tall td).length + (sall R).length + 1 = m
  big : m ≤ snodes F + 1
  at_ : SIn w 0 R b (o + k * 19)
  num : k + slen R = slen G
theorem VisS.pop {w : World} {F : SF} {td : TdS} {vs : List SN} {m : Nat} {p : SF × Value} {b o : Nat} (h : VisS w F (td ++ [p]) vs m) (hin : SIn w 0 p.1 b o) : VisR w F td vs m p.1 p.1 0 b o := by
  have h1 := h.perm; have h2 := h.len; have h3 := h.big
  rw [tall_app] at h1 h2
  simp only [tall, List.length_append, List.length_cons, List.length_nil, List.append_nil] at h1 h2
  exact ⟨fun q hq => h.all q (List.mem_append_left _ hq), h1, by omega, h3, by simpa using hin, by omega⟩
theorem VisR.push {w : World} {F : SF} {td : TdS} {vs : List SN} {m p q : Nat} {hd : SH} {l r G : SF} {k b o : Nat} {u : Value} (h : VisR w F td vs m (.node p q hd l r) G k b o) (hu : SV w 0 l u) : VisR w F (td ++ [(l, u)]) (vs ++ [(hd, l)]) m r G (k + 1) b o := by
  have h1 := h.perm; have h2 := h.len; have h4 := h.num
  simp only [sall, slen, List.length_cons, List.length_append] at h1 h2 h4
  refine ⟨fun q hq => ?_, ?_, ?_, h.big, ?_, by omega⟩
  · rcases List.mem_append.1 hq with hq | hq
    · exact h.all q hq
    · simp only [List.mem_cons, List.not_mem_nil, or_false] at hq; subst hq; exact hu
  · refine List.Perm.trans ?_ h1
    rw [tall_app]
    simp only [tall, List.append_nil, List.append_assoc, List.singleton_append, List.cons_append, List.nil_append]
    exact (List.perm_middle.symm).append_left vs
  · rw [tall_app]; simp only [tall, List.length_append, List.length_cons, List.length_nil]; omega
  · rw [show o + (k + 1) * 19 = o + k * 19 + 19 by omega]; exact (SIn_node.1 h.at_).2
theorem VisR.done {w : World} {F : SF} {td : TdS} {vs : List SN} {m : Nat} {G : SF} {k b o : Nat} (h : VisR w F td vs m .nil G k b o) : VisS w F td vs (m - 1) := by
  have h1 := h.perm; have h2 := h.len; have h3 := h.big
  simp only [sall, List.length_nil, List.append_nil] at h1 h2
  exact ⟨h.all, h1, by omega, by omega⟩
theorem VisR.mem {w : World} {F : SF} {td : TdS} {vs : List SN} {m p q : Nat} {hd : SH} {l r G : SF} {k b o : Nat} (h : VisR w F td vs m (.node p q hd l r) G k b o) : (hd, l) ∈ sall F ∧ vs.length < snodes F := by
  have h1 := h.perm
  refine ⟨h1.subset (by simp [sall]), ?_⟩
  have := h1.length_eq
  rw [sall_len] at this
  simp only [sall, List.length_append, List.length_cons] at this
  omega
theorem snocG {w w5 w6 : World} {lo hi : Nat} {td : TdS} {t v' u : Value} {l : SF} {o : Obj} (hown : w5.ownsRow w.heap.size 25 1 t td.length (td.map (·.2))) (hb : Gap lo hi w w5) (hg : (w5.alloc o).grownBy w6 t.ownBlock)
    (h : w6.ownsRow w.heap.size 25 1 v' (td.length + 1) (td.map (·.2) ++ [u])) : w6.ownsRow w.heap.size 25 1 v' (td ++ [(l, u)]).length ((td ++ [(l, u)]).map (·.2)) ∧ Gap lo hi w w6 ∧ w5.heap.size ≤ w6.heap.size ∧ ∀ k, k < w.heap.size → w6.heap[k]? = w5.heap[k]? := by
  have hbl : Below w.heap.size w5 w6 := ((Below.refl w.heap.size w5).alloc hb.size o).grown hg (by have := hb.size; simp; omega) (fun k hk => (hown.lt k hk).1)
  refine ⟨by rw [List.length_append, List.map_append]; exact h, ?_, hbl.size, hbl.block⟩
  exact ⟨hbl.os.trans hb.os, hbl.tape.trans hb.tape, hbl.output.trans hb.output, Nat.le_trans hb.size hbl.size, fun k hk hc => (hbl.block k hk).trans (hb.block k hk hc)⟩
def DoesS (w0 : World) (n lo hi : Nat) (F : SF) (kf : Nat) (caps : Array Value) (J : List SN → World → Prop) : Prop :=
  ∀ (vs : List SN) (h : SH) (l : SF) (v1 v2 v3 v4 u : Value) (w1 : World), J vs w1 → Below w0.heap.size w0 w1 → n ≤ w1.heap.size → HV w0 0 h v1 v2 v3 v4 → SV w0 0 l u → (h, l) ∈ sall F → vs.length < snodes F →
    Calls Tryz.prog kf (#[sagg h v1 v2 v3 v4 u] ++ caps) w1 fun e w2 => e = .returned (.tuple #[]) ∧ J (vs ++ [(h, l)]) w2 ∧ Gap lo hi w1 w2
set_option maxHeartbeats 4000000 in
set_option maxRecDepth 100000 in
theorem visitAllS_is (F : SF) (hF : snodes F ≤ 10000000) (w0 w : World) (hb0 : Below w0.heap.size w0 w) (lo hi : Nat) (hlo : w0.heap.size ≤ lo) (hhi : hi ≤ w.heap.size) (v : Value) (hv : SV w0 0 F v) (kf : Nat) (hent : ∀ (args : Array Value) (w : World), (callFunc kf args).run Tryz.prog w = .ok (.enter kf args) w) (caps : Array Value) (J : List SN → World → Prop) (hq : Quiet lo hi J) (hJ : J [] w) (hdo : DoesS w0 w.heap.size lo hi F kf caps J) :
    Calls Tryz.prog 133 #[v, .func (.func 134) #[] #[], .func (.func kf) #[] caps] w fun e w' => e = .returned (.tuple #[]) ∧ (∃ vs, J vs w' ∧ vs.Perm (sall F)) ∧ Gap lo hi w w' := by
  obtain ⟨i0, hi0, hz0, hz1, hz2⟩ := info_parts infoSS
  have C0 : Hid (VisS w0 F [(F, v)] [] (snodes F + 1)) := ⟨fun p hp => by simp only [List.mem_cons, List.not_mem_nil, or_false] at hp; subst hp; exact hv, by simp [tall], by simp [tall, sall_len]; omega, Nat.le_refl _⟩
  have Hdo := hid hdo
  have Hq := hid hq
  have HJ := hid hJ
  have Hb0 := hid hb0
  have hsz0 := hb0.size
  obtain ⟨a0, c0, rfl⟩ := hv.shape
  clear hv hdo hq hJ hb0
  go_enter Tryz.func133, Tryz.ntmps133
  go_wp2
  go_loopg [6] (snodes F + 1) (fun m t wr => ∃ (td : TdS) (vs : List SN), Hid (VisS w0 F td vs m) ∧ wr.ownsRow w.heap.size 25 1 t td.length (td.map (·.2)) ∧ Hid (J vs wr) ∧ Gap lo hi w wr)
  case atStart => exact ⟨[(F, .slice a0 (slen F) c0)], [], C0.out, ⟨rfl, .inr ⟨w.heap.size, 1, #[.slice a0 (slen F) c0], rfl, Nat.le_refl _, (by show (w.heap.push _)[w.heap.size]? = _; simp), Nat.le_refl _, (by unfold maxLen; omega), rfl, rfl⟩⟩, Hq.out.below HJ.out hhi (alloc_below _ _), Gap.of _ _ (alloc_below _ _)⟩
  case round =>
    obtain ⟨td, vs, hC, hown, hJv, hbw⟩ := hrel
    clear C0
    rcases List.eq_nil_or_concat td with rfl | ⟨ti, p, htd⟩
    · obtain ⟨a, cap, rfl⟩ := own_none hown
      have hs := hC.out.perm
      simp only [tall, List.append_nil] at hs
      have Hs := hid hs
      clear hs
      go_wp2
      go_end0
      exact ⟨rfl, ⟨vs, hJv.out, Hs.out⟩, hbw⟩
    · rw [List.concat_eq_append] at htd
      subst htd
      rw [List.length_append, List.map_append] at hown
      obtain ⟨g, cap, rfl, hc1, hc2, hBg, hg⟩ := own_some hown
      have hcell := own_cell hown (j := ti.length) (u := p.2) (by rw [List.getElem?_append_right (by simp)]; simp)
      have hpop := own_pop hown (by simp)
      obtain ⟨b, o, pa, pc, hpv, hpa, _, hpin⟩ := hC.out.all p (by simp)
      have hR := hC.out.pop hpin
      rw [hpv] at hcell
      have hnp : slen p.1 ≤ 10000000 := by have := hR.len; have := hR.big; have := slen_le p.1; rw [sall_len] at *; omega
      have hlen : ti.length ≤ 10000001 := by have := hR.len; have := hR.big; omega
      have HR := hid hR
      have hcapI : (ti.length : Int) + 1 ≤ (cap : Int) := by omega
      have hlenI : (ti.length : Int) ≤ 10000001 := by omega
      have hmx : (cap : Int) ≤ 9223372036854775807 := by unfold maxLen at hc2; omega
      clear hC hown hpin hR hc1 hlen hc2
      go_wp2
      go_loopw [6, 28] (fun t i wr2 => ∃ (td : TdS) (vs : List SN) (R : SF) (k : Nat), i = .int .i64 (k : Int) ∧ Hid (VisR w0 F td vs gk R p.1 k b o) ∧ wr2.ownsRow w.heap.size 25 1 t td.length (td.map (·.2)) ∧ Hid (J vs wr2) ∧ Gap lo hi w wr2) (fun _ i _ => slen p.1 - (RowKit.intOf i).toNat)
      case atStart => exact ⟨ti, vs, p.1, 0, rfl, HR.out, hpop, hJv.out, hbw⟩
      case round =>
        obtain ⟨td, vs, R, k, rfl, hR, hown, hJv2, hbr⟩ := hrel
        clear hcell hpop HR hbw hJv
        cases R with
        | nil =>
          have hk : ¬ (k : Int) < (slen p.1 : Int) := by have := hR.out.num; simp only [slen] at this; omega
          go_wp2
          go_roundg (gk - 1)
          case measure => have := hR.out.len; omega
          case rel => exact ⟨td, vs, hR.out.done, hown, hJv2, hbr⟩
        | node p' q' h l r =>
          have hlt : (k : Int) < (slen p.1 : Int) := by have := hR.out.num; simp only [slen] at this; omega
          have hne : ¬ p.1 = .nil := by intro e; have := hR.out.num; rw [e] at this; simp only [slen] at this; omega
          obtain rfl : pa = some ⟨b, o, Option.none⟩ := hpa.resolve_right hne
          have hbz : Below w0.heap.size w0 wr := Hb0.out.trans (hbr.below hlo hsz0)
          obtain ⟨v1, v2, v3, v4, u, hu, hul, hrg⟩ := (SIn_node.1 hR.out.at_).1.range
          have Hrg := hid (rangeAt_later hrg hbz)
          have Hbz := hid hbz
          have hR2 := hid (hR.out.push hul)
          have hM := hid hR.out.mem
          have HU := hid hu
          have HL := hid hul
          have o1 := hu.e1.isOne
          have o2 := hu.e2.isOne
          have o3 := hu.e3.isOne
          have o4 := hu.e4.isOne
          have o5 := hul.isOne
          obtain ⟨ua, uc, rfl⟩ := hul.shape
          have hn1 : td.length ≤ 10000001 := by have := hR.out.len; have := hR.out.big; omega
          have Hn1 := hid hn1
          have hsz := hbr.size
          clear hrg hu hul hR hne hn1 hpa hbz
          go_wp2_with (first | (refine wpList_load_mid rfl 119 _ rfl b (o + k * 19) rfl _ _ Hrg.out Tryz.underlying119 rfl sizeIS ?_) | (refine store_abs rfl 119 _ _ rfl _ _ _ rfl rfl ?ht sizeIS ?ho ?_; exact (newthere wr _); exact (oneS h v1 v2 v3 v4 _ o1 o2 o3 o4 o5); intro W hW; have HW := hid (newblkS h v1 v2 v3 v4 _ hW); clear hW) | (refine wpList_load_mid rfl 119 _ rfl wr.heap.size 0 rfl _ _ HW.out.1 Tryz.underlying119 rfl sizeIS ?_))
          refine (Hdo.out vs h l v1 v2 v3 v4 (.slice ua (slen l) uc) _ (Hq.out.below hJv2.out (Nat.le_trans hhi hsz) HW.out.2) (Hbz.out.trans (HW.out.2.mono Hbz.out.size)) (Nat.le_trans hsz HW.out.2.size) HU.out HL.out hM.out.1 hM.out.2).mono ?_
          rintro e w4 ⟨rfl, hJ4, hg4⟩
          have HJ4 := hid hJ4
          have hown4 := ownM (ownB hown HW.out.2) hg4 hhi
          have hbr4 := hbr.trans ((Gap.of lo hi HW.out.2).trans hg4)
          have hr4 : w4.rangeAt wr.heap.size 0 (scells h v1 v2 v3 v4 (.slice ua (slen l) uc)) := fun j x hx => by
            have h1 := HW.out.1 j x hx
            have h2 := lt_of_cellA h1
            have h3 := hg4.block wr.heap.size h2 (.inr (Nat.le_trans hhi hsz))
            unfold World.cell? at h1 ⊢
            simp only [h3]
            exact h1
          have Hr4 := hid hr4
          have hs4 := hbr4.size
          have hs4' := HW.out.2.size
          have hs4'' := hg4.size
          clear hJ4 hg4 hr4 hown hbr HW Hrg hJv2 HU HL
          go_wp2_with (refine wpList_load_mid rfl 119 _ rfl wr.heap.size 0 rfl _ _ Hr4.out Tryz.underlying119 rfl sizeIS ?_)
          refine (bodyOf_is h v1 v2 v3 v4 _ _).mono ?_
          rintro e w5 ⟨rfl, hb5⟩
          have hown5 := ownB hown4 hb5
          have hbr5 := hbr4.trans (Gap.of lo hi hb5)
          have HJ5 := hid (Hq.out.below HJ4.out (Nat.le_trans hhi hs4) hb5)
          have HO := hid hown5
          have hs5 := hbr5.size
          have hlt5 : td.length ≤ 10000001 := Hn1.out
          obtain ⟨ta, tc, rfl⟩ : ∃ ta tc, u6 = .slice ta td.length tc := by
            rcases hown5.2 with ⟨h1, h0⟩ | ⟨g, cap, cur, h1, _⟩
            · exact ⟨_, _, by rw [h0]; exact h1⟩
            · exact ⟨_, _, h1⟩
          clear hb5 hown4 hbr4 Hr4 o1 o2 o3 o4 o5
          go_wp2_with (at_builtin; refine wpList_append_own _ rfl _ _ 219 rfl w.heap.size 25 i0 _ 1 24 Tryz.underlying219 hi0 hz0 hz1 hz2 rfl (by decide) _ _ _ rfl (hown5.alloc _) ⟨w5.heap.size, 0, Option.none⟩ 1 1 [.slice ua (slen l) uc] rfl rfl ?c1 ?c2 ?c3 ?c4 ?c5 ?_)
          case c1 => exact new1 _ _ _
          case c2 => intro x hx; simp only [List.mem_cons, List.not_mem_nil, or_false] at hx; subst hx; rfl
          case c3 => unfold maxLen; omega
          case c4 => omega
          case c5 => simp; omega
          intro v' w6 hown' hgrow _
          obtain ⟨n1, n2, n3⟩ := snocG (l := l) hown5 hbr5 hgrow hown'
          have HJ6 := hid (Hq.out (vs ++ [(h, l)]) w5 w6 HJ5.out n3.1 (fun k _ hk => n3.2 k (by omega)))
          clear hown' hgrow hown5 hbr5 HO
          go_wp2
          go_roundw
          case rel => exact ⟨td ++ [(l, .slice ua (slen l) uc)], vs ++ [(h, l)], r, k + 1, by go_num, hR2, n1, HJ6, n2⟩
          case measure => simp [RowKit.intOf]; omega
def ints (xs : List Int) : List Value := xs.map (Value.int .i64)
theorem ints_len (xs : List Int) : (ints xs).length = xs.length := by simp [ints]
theorem ints_get {xs : List Int} {i : Nat} {t : Int} (h : xs[i]? = some t) : (ints xs)[i]? = some (.int .i64 t) := by simp [ints, h]
def IV (w : World) (lo : Nat) (v : Value) (xs : List Int) : Prop :=
  ∃ ao cap, v = .slice ao xs.length cap ∧ (xs = [] ∨ ∃ g off, ao = some ⟨g, off, Option.none⟩ ∧ lo ≤ g ∧ g < w.heap.size ∧ ∀ i t, xs[i]? = some t → w.cell? ⟨g, off + i, Option.none⟩ = some (.int .i64 t))
theorem IV.same {w w' : World} {lo lo' : Nat} {v : Value} {xs : List Int} (hlo : lo' ≤ lo) (h : IV w lo v xs) (hk : Keeps lo w w') (hz : w.heap.size ≤ w'.heap.size) : IV w' lo' v xs := by
  obtain ⟨ao, cap, hv, h⟩ := h
  refine ⟨ao, cap, hv, ?_⟩
  rcases h with h | ⟨g, off, h1, h0, h2, h3⟩
  · exact .inl h
  · exact .inr ⟨g, off, h1, Nat.le_trans hlo h0, Nat.lt_of_lt_of_le h2 hz, fun i t hi => hk _ _ h0 (h3 i t hi)⟩
theorem IV.later {w w' : World} {lo : Nat} {v : Value} {xs : List Int} (h : IV w lo v xs) (hb : Below w.heap.size w w') : IV w' lo v xs := h.same (Nat.le_refl _) (Keeps.later hb) hb.size
theorem IV.lower {w : World} {lo lo' : Nat} {v : Value} {xs : List Int} (h : IV w lo v xs) (hl : lo' ≤ lo) : IV w lo' v xs := h.same hl (Keeps.refl _ _) (Nat.le_refl _)
theorem IV.low {w : World} {lo : Nat} {v : Value} {xs : List Int} (h : IV w lo v xs) : IV w 0 v xs := h.lower (Nat.zero_le _)
theorem IV.shape {w : World} {lo : Nat} {v : Value} {xs : List Int} (h : IV w lo v xs) : ∃ a c, v = .slice a xs.length c := by obtain ⟨a, c, h1, _⟩ := h; exact ⟨a, c, h1⟩
theorem IV.isOne {w : World} {lo : Nat} {v : Value} {xs : List Int} (h : IV w lo v xs) : v.oneCell' = true := by obtain ⟨a, c, rfl⟩ := h.shape; rfl
theorem IV.of {w : World} {B n : Nat} {e : TypeId} {v : Value} {xs : List Int} (hn : n = xs.length) (h : w.ownsRow B e 1 v n (ints xs)) : IV w B v xs := by
  subst hn
  rcases h.2 with ⟨h0, h1⟩ | ⟨g, cap, cur, h1, h2, h3, h4⟩
  · exact ⟨Option.none, 0, by rw [h1]; exact h0, .inl (List.length_eq_zero_iff.1 h1)⟩
  · refine ⟨_, cap, h1, .inr ⟨g, 0, rfl, h2, lt_heap h3, fun i t hi => ?_⟩⟩
    have hc := h.cells (g := g) (by rw [h1]; rfl) i (.int .i64 t) (ints_get hi)
    have e : (⟨g, 0, Option.none⟩ : Addr).add i = ⟨g, i, Option.none⟩ := by simp [Addr.add]; omega
    rw [e] at hc
    rw [Nat.zero_add]; exact hc
def IIV (w : World) (lo : Nat) (v : Value) (xss : List (List Int)) : Prop :=
  ∃ ao cap, v = .slice ao xss.length cap ∧ (xss = [] ∨ ∃ g off, ao = some ⟨g, off, Option.none⟩ ∧ lo ≤ g ∧ g < w.heap.size ∧ ∀ i xs, xss[i]? = some xs → ∃ u, w.cell? ⟨g, off + i, Option.none⟩ = some u ∧ IV w lo u xs)
theorem IIV.same {w w' : World} {lo lo' : Nat} {v : Value} {xss : List (List Int)} (hlo : lo' ≤ lo) (h : IIV w lo v xss) (hk : Keeps lo w w') (hz : w.heap.size ≤ w'.heap.size) : IIV w' lo' v xss := by
  obtain ⟨ao, cap, hv, h⟩ := h
  refine ⟨ao, cap, hv, ?_⟩
  rcases h with h | ⟨g, off, h1, h0, h2, h3⟩
  · exact .inl h
  · refine .inr ⟨g, off, h1, Nat.le_trans hlo h0, Nat.lt_of_lt_of_le h2 hz, fun i xs hi => ?_⟩
    obtain ⟨u, h4, h5⟩ := h3 i xs hi
    exact ⟨u, hk _ _ h0 h4, h5.same hlo hk hz⟩
theorem IIV.later {w w' : World} {lo : Nat} {v : Value} {xss : List (List Int)} (h : IIV w lo v xss) (hb : Below w.heap.size w w') : IIV w' lo v xss := h.same (Nat.le_refl _) (Keeps.later hb) hb.size
theorem IIV.lower {w : World} {lo lo' : Nat} {v : Value} {xss : List (List Int)} (h : IIV w lo v xss) (hl : lo' ≤ lo) : IIV w lo' v xss := h.same hl (Keeps.refl _ _) (Nat.le_refl _)
theorem IIV.low {w : World} {lo : Nat} {v : Value} {xss : List (List Int)} (h : IIV w lo v xss) : IIV w 0 v xss := h.lower (Nat.zero_le _)
theorem IIV.shape {w : World} {lo : Nat} {v : Value} {xss : List (List Int)} (h : IIV w lo v xss) : ∃ a c, v = .slice a xss.length c := by obtain ⟨a, c, h1, _⟩ := h; exact ⟨a, c, h1⟩
theorem IIV.isOne {w : World} {lo : Nat} {v : Value} {xss : List (List Int)} (h : IIV w lo v xss) : v.oneCell' = true := by obtain ⟨a, c, rfl⟩ := h.shape; rfl
theorem IIV.get {w : World} {lo : Nat} {v : Value} {xss : List (List Int)} (h : IIV w lo v xss) {k : Nat} {xs : List Int} (hk : xss[k]? = some xs) : ∃ g off c u, v = .slice (some ⟨g, off, Option.none⟩) xss.length c ∧ w.cell? ⟨g, off + k, Option.none⟩ = some u ∧ IV w lo u xs := by
  obtain ⟨ao, cap, rfl, h⟩ := h
  rcases h with h | ⟨g, off, rfl, h0, h2, h3⟩
  · subst h; simp at hk
  · obtain ⟨u, h4, h5⟩ := h3 k xs hk
    exact ⟨g, off, cap, u, rfl, h4, h5⟩
theorem IV.get {w : World} {lo : Nat} {v : Value} {xs : List Int} (h : IV w lo v xs) {k : Nat} {x : Int} (hk : xs[k]? = some x) : ∃ g off c, v = .slice (some ⟨g, off, Option.none⟩) xs.length c ∧ w.cell? ⟨g, off + k, Option.none⟩ = some (.int .i64 x) := by
  obtain ⟨ao, cap, rfl, h⟩ := h
  rcases h with h | ⟨g, off, rfl, h0, h2, h3⟩
  · subst h; simp at hk
  · exact ⟨g, off, cap, rfl, h3 k x hk⟩
theorem IIV.at {w : World} {lo n c : Nat} {a : Option Addr} {xss : List (List Int)} (h : IIV w lo (.slice a n c) xss) {k : Nat} {xs : List Int} (hk : xss[k]? = some xs) : ∃ g off u, a = some ⟨g, off, Option.none⟩ ∧ w.cell? ⟨g, off + k, Option.none⟩ = some u ∧ IV w lo u xs := by
  obtain ⟨g, off, c', u, e, h1, h2⟩ := h.get hk
  injection e with e
  exact ⟨g, off, u, e, h1, h2⟩
theorem IV.at {w : World} {lo n c : Nat} {a : Option Addr} {xs : List Int} (h : IV w lo (.slice a n c) xs) {k : Nat} {x : Int} (hk : xs[k]? = some x) : ∃ g off, a = some ⟨g, off, Option.none⟩ ∧ w.cell? ⟨g, off + k, Option.none⟩ = some (.int .i64 x) := by
  obtain ⟨g, off, c', e, h1⟩ := h.get hk
  injection e with e
  exact ⟨g, off, e, h1⟩
set_option maxHeartbeats 2000000 in
set_option maxRecDepth 100000 in
theorem eqIntS_same (xs : List Int) (hlen : xs.length ≤ 100000000) (va vb : Value) (w : World) (ha : IV w 0 va xs) (hb : IV w 0 vb xs) :
    Calls Tryz.prog 60 #[va, vb] w fun e w' => e = .returned (.bool true) ∧ Below w.heap.size w w' := by
  obtain ⟨ao, ca, rfl, ha⟩ := ha
  obtain ⟨bo, cb, rfl, hb⟩ := hb
  go_enter Tryz.func60, Tryz.ntmps60
  go_wp2
  go_loopw [5] (fun i wr => ∃ k : Nat, k ≤ xs.length ∧ i = .int .i64 k ∧ Below w.heap.size w wr) (fun i _ => xs.length - (RowKit.intOf i).toNat)
  case atStart => exact ⟨0, by omega, rfl, Below.refl _ _⟩
  case round =>
    obtain ⟨k, hk, rfl, hbw⟩ := hrel
    by_cases hlt : k < xs.length
    · obtain ⟨t, ht⟩ : ∃ t, xs[k]? = some t := ⟨xs[k], List.getElem?_eq_getElem hlt⟩
      rcases ha with ha | ⟨ga, oa, rfl, _, gla, hca⟩
      · subst ha; simp at hlt
      rcases hb with hb | ⟨gb, ob, rfl, _, glb, hcb⟩
      · subst hb; simp at hlt
      have A0 := (hbw.cell (p := ⟨ga, oa + k, Option.none⟩) gla).trans (hca k t ht)
      have B0 := (hbw.cell (p := ⟨gb, ob + k, Option.none⟩) glb).trans (hcb k t ht)
      have hltI : (k : Int) < (xs.length : Int) := by omega
      clear hca hcb ht
      go_wp2_with fail
      go_cut [25] from 11 to 25 (fun v wx => v = .bool false ∧ Below wr.heap.size wr wx)
      case first =>
        go_region_with fail
        all_goals (try go_wp2_with fail)
        all_goals go_meet
        all_goals exact ⟨by simp, (Below.refl _ wr).drew⟩
      case rest =>
        obtain ⟨rfl, hb1⟩ := hcut
        have hbw2 := hbw.trans (hb1.mono hbw.size)
        clear A0 B0 hb1
        go_wp2
        go_roundw
        case rel => exact ⟨k + 1, by omega, by go_num, hbw2⟩
        case measure => simp [RowKit.intOf]; omega
    · go_wp2
      go_ret
      exact ⟨rfl, hbw⟩
set_option maxHeartbeats 2000000 in
set_option maxRecDepth 100000 in
theorem eqIntSS_same (xss : List (List Int)) (hlen : xss.length ≤ 100000000) (hin : ∀ xs ∈ xss, xs.length ≤ 100000000) (va vb : Value) (w : World) (ha : IIV w 0 va xss) (hb : IIV w 0 vb xss) :
    Calls Tryz.prog 59 #[va, vb] w fun e w' => e = .returned (.bool true) ∧ Below w.heap.size w w' := by
  have HA := hid ha
  have HB := hid hb
  obtain ⟨ao, ca, rfl⟩ := ha.shape
  obtain ⟨bo, cb, rfl⟩ := hb.shape
  clear ha hb
  go_enter Tryz.func59, Tryz.ntmps59
  go_wp2
  go_loopw [5] (fun i wr => ∃ k : Nat, k ≤ xss.length ∧ i = .int .i64 k ∧ Below w.heap.size w wr) (fun i _ => xss.length - (RowKit.intOf i).toNat)
  case atStart => exact ⟨0, by omega, rfl, Below.refl _ _⟩
  case round =>
    obtain ⟨k, hk, rfl, hbw⟩ := hrel
    by_cases hlt : k < xss.length
    · obtain ⟨t, ht⟩ : ∃ t, xss[k]? = some t := ⟨xss[k], List.getElem?_eq_getElem hlt⟩
      have htl := hin t (List.mem_of_getElem? ht)
      obtain ⟨ga, oa, ua, rfl, hca, hua⟩ := (HA.out.later hbw).at ht
      obtain ⟨gb, ob, ub, rfl, hcb, hub⟩ := (HB.out.later hbw).at ht
      have hltI : (k : Int) < (xss.length : Int) := by omega
      have UA := hid hua
      have UB := hid hub
      obtain ⟨pa, qa, rfl⟩ := hua.shape
      obtain ⟨pb, qb, rfl⟩ := hub.shape
      clear ht hua hub
      go_wp2_with fail
      go_cut [26] from 11 to 26 (fun v wx => v = .bool false ∧ Below wr.heap.size wr wx)
      case first =>
        go_region_with (go_at_call 60; refine (eqIntS_same t htl _ _ _ (UA.out.later (Below.refl _ wr).drew) (UB.out.later (Below.refl _ wr).drew)).mono ?_; rintro e w1 ⟨rfl, hb1⟩)
        all_goals (try go_wp2_with fail)
        all_goals go_meet
        all_goals exact ⟨by simp, ⟨hb1.os, hb1.tape, hb1.output, hb1.size, hb1.block⟩⟩
      case rest =>
        obtain ⟨rfl, hb1⟩ := hcut
        have hbw2 := hbw.trans (hb1.mono hbw.size)
        clear hca hcb hb1 UA UB
        go_wp2
        go_roundw
        case rel => exact ⟨k + 1, by omega, by go_num, hbw2⟩
        case measure => simp [RowKit.intOf]; omega
    · go_wp2
      go_ret
      exact ⟨rfl, hbw⟩
def imarks (m n : Nat) : List Int := (List.range n).map fun i => ((m + i : Nat) : Int)
theorem imarks_len (m n : Nat) : (imarks m n).length = n := by simp [imarks]
theorem imarks_get (m n k : Nat) (h : k < n) : (imarks m n)[k]? = some ((m + k : Nat) : Int) := by simp [imarks, h]
theorem imarks_succ (m n : Nat) : imarks m (n + 1) = imarks m n ++ [((m + n : Nat) : Int)] := by simp [imarks, List.range_succ]
theorem imarks_step (xs : List Int) (m k : Nat) (hk : k < xs.length) : (ints (imarks m k ++ xs.drop k)).set k (.int .i64 ((m + k : Nat) : Int)) = ints (imarks m (k + 1) ++ xs.drop (k + 1)) := by
  have hl := imarks_len m k
  rw [imarks_succ, ints, ints, List.drop_eq_getElem_cons hk, List.map_append, List.map_cons, List.set_append_right _ _ (by rw [List.length_map, hl]; exact Nat.le_refl _), List.length_map, hl, Nat.sub_self, List.set_cons_zero, List.map_append, List.map_append, List.append_assoc]
  rfl
theorem grownBy_refl (w : World) (r : Option Nat) : w.grownBy w r := ⟨rfl, rfl, rfl, Nat.le_refl _, fun _ _ _ => rfl⟩
theorem grownBy_trans {a b c : World} {r : Option Nat} (h : a.grownBy b r) (k : b.grownBy c r) : a.grownBy c r :=
  ⟨k.os.trans h.os, k.tape.trans h.tape, k.output.trans h.output, Nat.le_trans h.size k.size, fun i hi hne => (k.block i (Nat.lt_of_lt_of_le hi h.size) hne).trans (h.block i hi hne)⟩
theorem below_of_grown {B : Nat} {w w' : World} {r : Option Nat} (h : w.grownBy w' r) (hr : ∀ k, r = some k → B ≤ k) (hB : B ≤ w.heap.size) : Below B w w' := ⟨h.os, h.tape, h.output, h.size, fun k hk => h.block k (by omega) (fun e => by have := hr k e.symm; omega)⟩
theorem grownBy_set {w : World} {g : Nat} (p : Addr) (hp : p.block = g) (u : Value) : w.grownBy (w.setCell p u) (some g) := ⟨rfl, rfl, rfl, by simp [World.setCell], fun k _ hk => Below.heap_setCell _ _ _ _ (fun e => hk (by rw [e, hp]))⟩
theorem iown_put {w : World} {B n g cap j : Nat} {e : TypeId} {xs : List Value} (h : w.ownsRow B e 1 (.slice (some ⟨g, 0, Option.none⟩) n cap) n xs) (u : Value) : (w.setCell ⟨g, j, Option.none⟩ u).ownsRow B e 1 (.slice (some ⟨g, 0, Option.none⟩) n cap) n (xs.set j u) := by
  refine ⟨by rw [List.length_set]; exact h.1, ?_⟩
  rcases h.2 with ⟨h0, _⟩ | ⟨g', cap', cur, h1, h2, h3, h4, h5, h6, h7⟩
  · cases h0
  · injection h1 with e1 e2 e3
    injection e1 with e1
    injection e1 with e1
    subst e1; subst e3
    refine .inr ⟨g, cap, cur.setIfInBounds j u, rfl, h2, ?_, h4, h5, by simpa using h6, by rw [Array.toList_setIfInBounds, List.take_set, h7]⟩
    exact Go.heap_setCell_same w g j cur e u h3
theorem iown_cell {w : World} {B n g cap : Nat} {e : TypeId} {xs : List Value} (h : w.ownsRow B e 1 (.slice (some ⟨g, 0, Option.none⟩) n cap) n xs) {j : Nat} {u : Value} (hu : xs[j]? = some u) : w.cell? ⟨g, j, Option.none⟩ = some u ∧ w.frozen? ⟨g, j, Option.none⟩ = false := by
  refine ⟨own_cell h hu, ?_⟩
  rcases h.2 with ⟨h0, _⟩ | ⟨g', cap', cur, h1, h2, h3, _⟩
  · cases h0
  · injection h1 with e1 e2 e3
    injection e1 with e1
    injection e1 with e1
    subst e1
    simp [World.frozen?, h3]
theorem iownShape {w : World} {B sz n : Nat} {e : TypeId} {v : Value} {xs : List Value} (h : w.ownsRow B e sz v n xs) : ∃ a c, v = .slice a n c := by
  rcases h.2 with ⟨h1, h0⟩ | ⟨g, cap, cur, h1, _⟩
  · exact ⟨_, _, by rw [h0]; exact h1⟩
  · exact ⟨_, _, h1⟩
set_option maxHeartbeats 2000000 in
set_option maxRecDepth 100000 in
theorem markIntS_is (xs : List Int) (m : Nat) (hm : m + xs.length ≤ 20000000) (B : Nat) (v : Value) (w : World) (hown : w.ownsRow B 3 1 v xs.length (ints xs)) :
    Calls Tryz.prog 66 #[v, .int .i64 (m : Int)] w fun e w' => e = .returned (.int .i64 ((m + xs.length : Nat) : Int)) ∧ w'.ownsRow B 3 1 v xs.length (ints (imarks m xs.length)) ∧ w.grownBy w' v.ownBlock := by
  obtain ⟨va, vc, rfl⟩ := iownShape hown
  go_enter Tryz.func66, Tryz.ntmps66
  go_wp2
  go_loopw [1, 5] (fun x i wr => ∃ k : Nat, k ≤ xs.length ∧ i = .int .i64 k ∧ x = .int .i64 ((m + k : Nat) : Int) ∧ wr.ownsRow B 3 1 (.slice va xs.length vc) xs.length (ints (imarks m k ++ xs.drop k)) ∧ w.grownBy wr (Value.slice va xs.length vc).ownBlock) (fun _ i _ => xs.length - (RowKit.intOf i).toNat)
  case atStart => exact ⟨0, by omega, rfl, rfl, by simpa [imarks] using hown, grownBy_refl _ _⟩
  case round =>
    obtain ⟨k, hk, rfl, rfl, ho, hbr⟩ := hrel
    clear hown
    by_cases hlt : k < xs.length
    · have hltI : (k : Int) < (xs.length : Int) := by omega
      obtain ⟨q, hq⟩ : ∃ q, xs.length = q + 1 := ⟨xs.length - 1, by omega⟩
      obtain ⟨g, hva⟩ : ∃ g, va = some ⟨g, 0, Option.none⟩ := by
        have ho' := ho
        rw [hq] at ho'
        obtain ⟨g, cap, e1, _⟩ := own_some ho'
        injection e1 with e1
        exact ⟨g, e1⟩
      subst hva
      have hs2 : (ints (imarks m k ++ xs.drop k))[k]? = some (.int .i64 xs[k]) := by
        apply ints_get
        rw [List.getElem?_append_right (by rw [imarks_len]; exact Nat.le_refl _), imarks_len, Nat.sub_self, List.drop_eq_getElem_cons hlt]; rfl
      obtain ⟨c3, f3⟩ := iown_cell ho hs2
      have n1 := iown_put (j := k) ho (.int .i64 ((m + k : Nat) : Int))
      rw [imarks_step xs m k hlt] at n1
      have n2 := hid (grownBy_trans hbr (grownBy_set (g := g) ⟨g, k, Option.none⟩ rfl (.int .i64 ((m + k : Nat) : Int))))
      have N1 := hid n1
      clear ho hbr n1 hs2 hq
      go_wp2
      go_roundw
      case rel => exact ⟨k + 1, by omega, by go_num, by go_num, N1.out, n2.out⟩
      case measure => simp [RowKit.intOf]; omega
    · obtain rfl : k = xs.length := by omega
      rw [List.drop_length, List.append_nil] at ho
      have HO := hid ho
      have HG := hid hbr
      clear ho hbr
      go_wp2
      go_ret
      exact ⟨rfl, HO.out, HG.out⟩
set_option maxHeartbeats 2000000 in
set_option maxRecDepth 100000 in
theorem heldIntS_is (n m : Nat) (hm : m + n ≤ 20000000) (v : Value) (w : World) (hr : IV w 0 v (imarks m n)) :
    Calls Tryz.prog 68 #[v, .int .i64 (m : Int)] w fun e w' => e = .returned (.int .i64 ((m + n : Nat) : Int)) ∧ w' = w := by
  have H := hid hr
  obtain ⟨ao, cap, rfl⟩ := hr.shape
  rw [imarks_len] at H ⊢
  clear hr
  go_enter Tryz.func68, Tryz.ntmps68
  go_wp2
  go_loopw [1, 5] (fun x i wr => ∃ k : Nat, k ≤ n ∧ i = .int .i64 k ∧ x = .int .i64 ((m + k : Nat) : Int) ∧ wr = w) (fun _ i _ => n - (RowKit.intOf i).toNat)
  case atStart => exact ⟨0, by omega, rfl, rfl, rfl⟩
  case round =>
    obtain ⟨k, hk, rfl, rfl, rfl⟩ := hrel
    by_cases hlt : k < n
    · have hltI : (k : Int) < (n : Int) := by omega
      obtain ⟨g, off, rfl, A0⟩ := H.out.at (imarks_get m n k hlt)
      go_wp2
      go_roundw
      case rel => exact ⟨k + 1, by omega, by go_num, by go_num, trivial⟩
      case measure => simp [RowKit.intOf]; omega
    · obtain rfl : k = n := by omega
      go_wp2
      go_ret
      exact ⟨rfl, rfl⟩
abbrev VR := Value × List Int
def apartV (a b : VR) : Prop := ∀ k, a.1.ownBlock = some k → b.1.ownBlock ≠ some k
structure Owns (w : World) (B : Nat) (rs : List VR) : Prop where
  own : ∀ r ∈ rs, w.ownsRow B 3 1 r.1 r.2.length (ints r.2)
  apart : rs.Pairwise apartV
theorem ownG {w w' : World} {B sz n : Nat} {e : TypeId} {v : Value} {xs : List Value} {r : Option Nat} (h : w.ownsRow B e sz v n xs) (hg : w.grownBy w' r) (hne : ∀ k, v.ownBlock = some k → r ≠ some k) : w'.ownsRow B e sz v n xs := by
  refine ⟨h.1, ?_⟩
  rcases h.2 with h0 | ⟨g, cap, cur, h1, h2, h3, h4⟩
  · exact .inl h0
  · exact .inr ⟨g, cap, cur, h1, h2, (hg.block g (lt_heap h3) (fun e => hne g (by rw [h1]; rfl) e.symm)).trans h3, h4⟩
structure OnlyR (rs : List VR) (w w' : World) : Prop where
  os : w'.os = w.os
  tape : w'.tape = w.tape
  output : w'.output = w.output
  size : w.heap.size ≤ w'.heap.size
  block : ∀ k, k < w.heap.size → (∀ r ∈ rs, r.1.ownBlock ≠ some k) → w'.heap[k]? = w.heap[k]?
theorem OnlyR.refl (rs : List VR) (w : World) : OnlyR rs w w := ⟨rfl, rfl, rfl, Nat.le_refl _, fun _ _ _ => rfl⟩
theorem OnlyR.trans {rs : List VR} {a b c : World} (h : OnlyR rs a b) (k : OnlyR rs b c) : OnlyR rs a c :=
  ⟨k.os.trans h.os, k.tape.trans h.tape, k.output.trans h.output, Nat.le_trans h.size k.size, fun i hi hne => (k.block i (Nat.lt_of_lt_of_le hi h.size) hne).trans (h.block i hi hne)⟩
theorem OnlyR.more {rs rs' : List VR} {a b : World} (h : OnlyR rs a b) (hs : ∀ r ∈ rs, r ∈ rs') : OnlyR rs' a b := ⟨h.os, h.tape, h.output, h.size, fun k hk hne => h.block k hk fun r hr => hne r (hs r hr)⟩
theorem OnlyR.of {w w' : World} {r : VR} (hg : w.grownBy w' r.1.ownBlock) : OnlyR [r] w w' := ⟨hg.os, hg.tape, hg.output, hg.size, fun k hk hne => hg.block k hk (fun e => hne r (by simp) e.symm)⟩
theorem OnlyR.below {rs : List VR} {w w' : World} {B : Nat} (h : OnlyR rs w w') (hB : B ≤ w.heap.size) (hr : ∀ r ∈ rs, ∀ k, r.1.ownBlock = some k → B ≤ k) : Below B w w' :=
  ⟨h.os, h.tape, h.output, h.size, fun k hk => h.block k (by omega) fun r hm e => by have := hr r hm k e; omega⟩
theorem Owns.ge {w : World} {B : Nat} {rs : List VR} (h : Owns w B rs) : ∀ r ∈ rs, ∀ k, r.1.ownBlock = some k → B ≤ k := fun r hr k hk => ((h.own r hr).lt k hk).1
theorem Owns.later {w w' : World} {B : Nat} {rs : List VR} (h : Owns w B rs) (hb : Below w.heap.size w w') : Owns w' B rs := ⟨fun r hr => ownB (h.own r hr) hb, h.apart⟩
theorem Owns.nil (w : World) (B : Nat) : Owns w B [] := ⟨fun r h => by simp at h, List.Pairwise.nil⟩
theorem OnlyR.outer {w w' : World} {B C sz n : Nat} {e : TypeId} {v : Value} {xs : List Value} {rs : List VR} (h : w.ownsRow B e sz v n xs) (he : e ≠ 3) (ho : Owns w C rs) (hg : OnlyR rs w w') : w'.ownsRow B e sz v n xs := by
  refine ⟨h.1, ?_⟩
  rcases h.2 with h0 | ⟨g, cap, cur, h1, h2, h3, h4⟩
  · exact .inl h0
  · refine .inr ⟨g, cap, cur, h1, h2, (hg.block g (lt_heap h3) (fun r hr ek => ?_)).trans h3, h4⟩
    rcases (ho.own r hr).2 with ⟨e0, _⟩ | ⟨g', cap', cur', e1, e2, e3, e4⟩
    · rw [e0] at ek; cases ek
    · rw [e1] at ek
      injection ek with ek
      rw [show g' = g from ek] at e3
      rw [h3] at e3
      injection e3 with e3
      injection e3 with _ e3 _
      exact he e3
theorem apart_same {P Q : List VR} {r r' : VR} (h : (P ++ r :: Q).Pairwise apartV) (e : r'.1 = r.1) : (P ++ r' :: Q).Pairwise apartV := by
  have e1 : ∀ a, apartV r' a ↔ apartV r a := fun a => by unfold apartV; rw [e]
  have e2 : ∀ a, apartV a r' ↔ apartV a r := fun a => by unfold apartV; rw [e]
  rw [List.pairwise_append] at h ⊢
  refine ⟨h.1, ?_, fun a ha b hb => ?_⟩
  · rw [List.pairwise_cons] at h ⊢
    exact ⟨fun b hb => (e1 b).2 (h.2.1.1 b hb), h.2.1.2⟩
  · rcases List.mem_cons.1 hb with rfl | hb
    · exact (e2 a).2 (h.2.2 a ha r (by simp))
    · exact h.2.2 a ha b (List.mem_cons_of_mem _ hb)
theorem Owns.put {w w' : World} {B : Nat} {P Q : List VR} {r r' : VR} (h : Owns w B (P ++ r :: Q)) (e : r'.1 = r.1) (hg : w.grownBy w' r.1.ownBlock) (hn : w'.ownsRow B 3 1 r'.1 r'.2.length (ints r'.2)) : Owns w' B (P ++ r' :: Q) := by
  refine ⟨fun q hq => ?_, apart_same h.apart e⟩
  have hp := h.apart
  rw [List.pairwise_append, List.pairwise_cons] at hp
  rcases List.mem_append.1 hq with hq | hq
  · exact ownG (h.own q (List.mem_append_left _ hq)) hg (fun k hk ek => hp.2.2 q hq r (by simp) k hk ek)
  · rcases List.mem_cons.1 hq with rfl | hq
    · exact hn
    · exact ownG (h.own q (List.mem_append_right _ (List.mem_cons_of_mem _ hq))) hg (fun k hk ek => hp.2.1.1 q hq k ek hk)
def mkRows : Nat → List VR → List VR
  | _, [] => []
  | m, r :: rs => (r.1, imarks m r.2.length) :: mkRows (m + r.2.length) rs
def tot : List VR → Nat
  | [] => 0
  | r :: rs => r.2.length + tot rs
theorem tot_app (a b : List VR) : tot (a ++ b) = tot a + tot b := by
  induction a with
  | nil => simp [tot]
  | cons x xs ih => simp only [List.cons_append, tot, ih]; omega
theorem mkRows_app (a b : List VR) (m : Nat) : mkRows m (a ++ b) = mkRows m a ++ mkRows (m + tot a) b := by
  induction a generalizing m with
  | nil => simp [mkRows, tot]
  | cons x xs ih => simp only [List.cons_append, mkRows, ih, tot, Nat.add_assoc]
def totA : List (List Int) → Nat
  | [] => 0
  | xs :: A => xs.length + totA A
theorem tot_totA (rs : List VR) : tot rs = totA (rs.map (·.2)) := by
  induction rs with
  | nil => rfl
  | cons r rs ih => simp only [tot, List.map_cons, totA, ih]
theorem take_step {rs : List VR} {k : Nat} {r : VR} (h : rs[k]? = some r) : rs.take (k + 1) = rs.take k ++ [r] := by
  obtain ⟨hk, e⟩ := List.getElem?_eq_some_iff.1 h
  rw [List.take_add_one, h]; rfl
theorem drop_step {rs : List VR} {k : Nat} {r : VR} (h : rs[k]? = some r) : rs.drop k = r :: rs.drop (k + 1) := by
  obtain ⟨hk, e⟩ := List.getElem?_eq_some_iff.1 h
  rw [List.drop_eq_getElem_cons hk, e]
set_option maxHeartbeats 2000000 in
set_option maxRecDepth 100000 in
theorem markIntSS_is (rs P Q : List VR) (m : Nat) (hm : m + tot rs ≤ 20000000) (hlen : rs.length ≤ 100000000) (B C : Nat) (v : Value) (w : World) (hout : w.ownsRow C 31 1 v rs.length (rs.map (·.1))) (hown : Owns w B (P ++ rs ++ Q)) :
    Calls Tryz.prog 65 #[v, .int .i64 (m : Int)] w fun e w' => e = .returned (.int .i64 ((m + tot rs : Nat) : Int)) ∧ Owns w' B (P ++ mkRows m rs ++ Q) ∧ OnlyR rs w w' := by
  have HO := hid hout
  have HW := hid hown
  obtain ⟨va, vc, rfl⟩ := iownShape hout
  clear hout hown
  go_enter Tryz.func65, Tryz.ntmps65
  go_wp2
  go_loopw [1, 5] (fun x i wr => ∃ k : Nat, k ≤ rs.length ∧ i = .int .i64 k ∧ x = .int .i64 ((m + tot (rs.take k) : Nat) : Int) ∧ Hid (Owns wr B (P ++ mkRows m (rs.take k) ++ (rs.drop k ++ Q)) ∧ OnlyR rs w wr)) (fun _ i _ => rs.length - (RowKit.intOf i).toNat)
  case atStart => exact ⟨0, by omega, rfl, by simp [tot], ⟨by simpa [mkRows, List.append_assoc] using HW.out, OnlyR.refl _ _⟩⟩
  case round =>
    obtain ⟨k, hk, rfl, rfl, hin⟩ := hrel
    by_cases hlt : k < rs.length
    · have hltI : (k : Int) < (rs.length : Int) := by omega
      obtain ⟨r, hr⟩ : ∃ r, rs[k]? = some r := ⟨rs[k], List.getElem?_eq_getElem hlt⟩
      obtain ⟨q, hq⟩ : ∃ q, rs.length = q + 1 := ⟨rs.length - 1, by omega⟩
      have ho1 : wr.ownsRow C 31 1 (.slice va rs.length vc) rs.length (rs.map (·.1)) := OnlyR.outer HO.out (by decide) (C := B) (rs := rs) ⟨fun r hr => HW.out.own r (by simp [hr]), by have := HW.out.apart; rw [List.append_assoc, List.pairwise_append, List.pairwise_append] at this; exact this.2.1.1⟩ hin.out.2
      obtain ⟨g, hva⟩ : ∃ g, va = some ⟨g, 0, Option.none⟩ := by
        have ho' := ho1
        rw [hq] at ho'
        obtain ⟨g, cap, e1, _⟩ := own_some ho'
        injection e1 with e1
        exact ⟨g, e1⟩
      subst hva
      obtain ⟨c3, f3⟩ := iown_cell ho1 (j := k) (u := r.1) (by rw [List.getElem?_map, hr]; rfl)
      have hw1 := hin.out.1
      rw [drop_step hr, List.cons_append] at hw1
      have hr1 := hw1.own r (by simp)
      have HW1 := hid hw1
      have Htk : Hid (tot (rs.take (k + 1)) = tot (rs.take k) + r.2.length) := show tot (rs.take (k + 1)) = _ by rw [take_step hr, tot_app]; simp [tot]
      have Htt : Hid (tot (rs.take (k + 1)) ≤ tot rs) := show tot (rs.take (k + 1)) ≤ tot rs by
        have e := tot_app (rs.take (k + 1)) (rs.drop (k + 1)); rw [List.take_append_drop] at e; omega
      have Hmk : Hid (mkRows m (rs.take (k + 1)) = mkRows m (rs.take k) ++ [(r.1, imarks (m + tot (rs.take k)) r.2.length)]) := show mkRows m (rs.take (k + 1)) = _ by rw [take_step hr, mkRows_app]; rfl
      have HR1 := hid hr1
      have Hone : r.1.oneCell' = true := by obtain ⟨a, c, e⟩ := iownShape hr1; rw [e]; rfl
      have Hmem : r ∈ rs := List.mem_of_getElem? hr
      obtain ⟨T, hT⟩ : ∃ T, T = m + tot (rs.take k) := ⟨_, rfl⟩
      rw [← hT]
      have HT := hid hT
      obtain ⟨a0, c0, hv0⟩ := iownShape hr1
      have HV0 := hid hv0
      rw [hv0] at c3
      clear hw1 hr1 ho1 hq hr hv0 hT Hone
      go_wp2_with fail
      refine (markIntS_is r.2 T (by have h1 := Htk.out; have h2 := Htt.out; have h3 := HT.out; omega) B (.slice a0 r.2.length c0) wr (by rw [← HV0.out]; exact HR1.out)).mono ?_
      rintro e w1 ⟨rfl, hn1, hg1⟩
      rw [← HV0.out] at hn1 hg1
      have N1 := hid (HW1.out.put (r' := (r.1, imarks T r.2.length)) rfl hg1 (by rw [imarks_len]; exact hn1))
      have N2 := hid (hin.out.2.trans ((OnlyR.of (r := r) hg1).more (fun x hx => by simp at hx; subst hx; exact Hmem)))
      clear hn1 hg1 c3 f3 HR1 HW1 hin
      go_wp2
      go_roundw
      case rel => exact ⟨k + 1, by omega, by go_num, (by rw [Htk.out, HT.out]; exact val_intA (by omega)), ⟨(by rw [Hmk.out, ← HT.out]; have := N1.out; simpa [List.append_assoc] using this), N2.out⟩⟩
      case measure => simp [RowKit.intOf]; omega
    · obtain rfl : k = rs.length := by omega
      have H2 := hin.out
      rw [List.take_length, List.drop_length, List.nil_append] at H2
      rw [List.take_length]
      have HH := hid H2
      clear H2 hin
      go_wp2
      go_ret
      exact ⟨rfl, HH.out.1, HH.out.2⟩
theorem Owns.row {w : World} {B : Nat} {rs : List VR} (h : Owns w B rs) {r : VR} (hr : r ∈ rs) : IV w B r.1 r.2 := IV.of rfl (h.own r hr)
theorem iivOf {w : World} {B C : Nat} {e : TypeId} {rs : List VR} {v : Value} (hout : w.ownsRow C e 1 v rs.length (rs.map (·.1))) (h : ∀ r ∈ rs, IV w B r.1 r.2) : IIV w 0 v (rs.map (·.2)) := by
  rcases hout.2 with ⟨h0, h1⟩ | ⟨g, cap, cur, h1, h2, h3, h4⟩
  · exact ⟨Option.none, 0, by rw [List.length_map, h1]; exact h0, .inl (by rw [List.length_eq_zero_iff.1 h1]; rfl)⟩
  · refine ⟨_, cap, by rw [List.length_map]; exact h1, .inr ⟨g, 0, rfl, Nat.zero_le _, lt_heap h3, fun i xs hi => ?_⟩⟩
    rw [List.getElem?_map] at hi
    cases hr : rs[i]? with
    | none => rw [hr] at hi; simp at hi
    | some r =>
      rw [hr] at hi
      simp at hi
      subst hi
      subst h1
      have := own_cell hout (j := i) (u := r.1) (by rw [List.getElem?_map, hr]; rfl)
      exact ⟨r.1, by rw [Nat.zero_add]; exact this, (h r (List.mem_of_getElem? hr)).low⟩
set_option maxHeartbeats 2000000 in
set_option maxRecDepth 100000 in
theorem heldIntSS_is (rs : List VR) (m : Nat) (hm : m + tot rs ≤ 20000000) (hlen : rs.length ≤ 100000000) (C : Nat) (v : Value) (w : World) (hout : w.ownsRow C 31 1 v rs.length (rs.map (·.1))) (hown : ∀ r ∈ mkRows m rs, IV w 0 r.1 r.2) :
    Calls Tryz.prog 67 #[v, .int .i64 (m : Int)] w fun e w' => e = .returned (.int .i64 ((m + tot rs : Nat) : Int)) ∧ w' = w := by
  have HO := hid hout
  have HW := hid hown
  obtain ⟨va, vc, rfl⟩ := iownShape hout
  clear hout hown
  go_enter Tryz.func67, Tryz.ntmps67
  go_wp2
  go_loopw [1, 5] (fun x i wr => ∃ k : Nat, k ≤ rs.length ∧ i = .int .i64 k ∧ x = .int .i64 ((m + tot (rs.take k) : Nat) : Int) ∧ wr = w) (fun _ i _ => rs.length - (RowKit.intOf i).toNat)
  case atStart => exact ⟨0, by omega, rfl, by simp [tot], rfl⟩
  case round =>
    obtain ⟨k, hk, rfl, rfl, rfl⟩ := hrel
    by_cases hlt : k < rs.length
    · have hltI : (k : Int) < (rs.length : Int) := by omega
      obtain ⟨r, hr⟩ : ∃ r, rs[k]? = some r := ⟨rs[k], List.getElem?_eq_getElem hlt⟩
      obtain ⟨q, hq⟩ : ∃ q, rs.length = q + 1 := ⟨rs.length - 1, by omega⟩
      have ho1 := HO.out
      obtain ⟨g, hva⟩ : ∃ g, va = some ⟨g, 0, Option.none⟩ := by
        have ho' := ho1
        rw [hq] at ho'
        obtain ⟨g, cap, e1, _⟩ := own_some ho'
        injection e1 with e1
        exact ⟨g, e1⟩
      subst hva
      obtain ⟨c3, f3⟩ := iown_cell ho1 (j := k) (u := r.1) (by rw [List.getElem?_map, hr]; rfl)
      have Htk : Hid (tot (rs.take (k + 1)) = tot (rs.take k) + r.2.length) := show tot (rs.take (k + 1)) = _ by rw [take_step hr, tot_app]; simp [tot]
      have Htt : Hid (tot (rs.take (k + 1)) ≤ tot rs) := show tot (rs.take (k + 1)) ≤ tot rs by
        have e := tot_app (rs.take (k + 1)) (rs.drop (k + 1)); rw [List.take_append_drop] at e; omega
      have Hiv : Hid (IV wr 0 r.1 (imarks (m + tot (rs.take k)) r.2.length)) := HW.out (r.1, imarks (m + tot (rs.take k)) r.2.length) (by
        have e := mkRows_app (rs.take k) (rs.drop k) m
        rw [List.take_append_drop, drop_step hr] at e
        rw [e]; simp [mkRows])
      obtain ⟨T, hT⟩ : ∃ T, T = m + tot (rs.take k) := ⟨_, rfl⟩
      rw [← hT] at Hiv ⊢
      have HT := hid hT
      obtain ⟨a0, c0, hv0⟩ := Hiv.out.shape
      rw [imarks_len] at hv0
      have HV0 := hid hv0
      rw [hv0] at c3
      have hnn : ¬ (((T + r.2.length : Nat) : Int) < 0) := by omega
      have hnn2 : ¬ ((T : Int) + (r.2.length : Int) < 0) := by omega
      clear ho1 hq hr hv0 hT
      go_wp2_with fail
      refine (heldIntS_is r.2.length T (by have h1 := Htk.out; have h2 := Htt.out; have h3 := HT.out; omega) (.slice a0 r.2.length c0) wr (by rw [← HV0.out]; exact Hiv.out)).mono ?_
      rintro e w1 ⟨rfl, rfl⟩
      clear c3 f3
      go_wp2
      go_roundw
      case rel => exact ⟨k + 1, by omega, by go_num, (by rw [Htk.out, HT.out]; exact val_intA (by omega)), trivial⟩
      case measure => simp [RowKit.intOf]; omega
    · obtain rfl : k = rs.length := by omega
      rw [List.take_length]
      go_wp2
      go_ret
      exact ⟨rfl, rfl⟩
end Go.Proofs.YtfoghiminlbdaaaGreat
