/-
  The contract of the landed code's visitAll over statements: whatever it is handed to do at each of them.
-/
import Derived.Test.YthokildkedlkfaaAstUnder
import Derived.Deep.LoopGhost
namespace Go.Proofs.Ythokildkedlkfaa
open Go.RowKit Go.Lib
set_option linter.unusedSimpArgs false
set_option linter.unusedVariables false

theorem lt_heap {w : World} {g : Nat} {o : Obj} (h : w.heap[g]? = some o) : g < w.heap.size := (Array.getElem?_eq_some_iff.1 h).1
theorem ownB {w w' : World} {B sz n : Nat} {e : TypeId} {v : Value} {xs : List Value} (h : w.ownsRow B e sz v n xs) (hb : Below w.heap.size w w') : w'.ownsRow B e sz v n xs := by
  refine ⟨h.1, ?_⟩
  rcases h.2 with h0 | ⟨g, cap, cur, h1, h2, h3, h4⟩
  · exact .inl h0
  · exact .inr ⟨g, cap, cur, h1, h2, (hb.block g (lt_heap h3)).trans h3, h4⟩
theorem ownSets {w : World} {B sz n N : Nat} {e : TypeId} {v : Value} {xs : List Value} (h : w.ownsRow B e sz v n xs) (hN : ∀ o, w.heap[N]? = some o → ∀ g, v.ownBlock = some g → N ≠ g) (o : Nat) (vs : List Value) (hn : N < w.heap.size) : (w.setCells N o vs).ownsRow B e sz v n xs := by
  refine ⟨h.1, ?_⟩
  rcases h.2 with h0 | ⟨g, cap, cur, h1, h2, h3, h4⟩
  · exact .inl h0
  · refine .inr ⟨g, cap, cur, h1, h2, ?_, h4⟩
    have hne : N ≠ g := hN _ (Array.getElem?_eq_getElem hn) g (by rw [h1]; rfl)
    have : ∀ (vs : List Value) (o : Nat) (w : World), (w.setCells N o vs).heap[g]? = w.heap[g]? := by
      intro vs
      induction vs with
      | nil => intro o w; rfl
      | cons x xs ih => intro o w; rw [World.setCells, ih, Below.heap_setCell _ _ _ _ (fun e => hne e.symm)]
    rw [this]; exact h3
/-- A row with something in it. -/
theorem own_some {w : World} {B sz n : Nat} {e : TypeId} {v : Value} {xs : List Value} (h : w.ownsRow B e sz v (n + 1) xs) : ∃ g cap, v = .slice (some ⟨g, 0, Option.none⟩) (n + 1) cap ∧ n + 1 ≤ cap ∧ cap ≤ maxLen ∧ B ≤ g ∧ g < w.heap.size := by
  rcases h.2 with ⟨_, h0⟩ | ⟨g, cap, cur, h1, h2, h3, h4, h5, _⟩
  · cases h0
  · exact ⟨g, cap, h1, h4, h5, h2, lt_heap h3⟩
theorem own_none {w : World} {B sz : Nat} {e : TypeId} {v : Value} {xs : List Value} (h : w.ownsRow B e sz v 0 xs) : ∃ a cap, v = .slice a 0 cap := by
  rcases h.2 with ⟨h1, h0⟩ | ⟨g, cap, cur, h1, _⟩
  · exact ⟨_, _, h1⟩
  · exact ⟨_, _, h1⟩
/-- The last one is let go. -/
theorem own_pop {w : World} {B sz n g cap : Nat} {e : TypeId} {xs ys : List Value} (h : w.ownsRow B e sz (.slice (some ⟨g, 0, Option.none⟩) (n + 1) cap) (n + 1) (xs ++ ys)) (hx : xs.length = n * sz) : w.ownsRow B e sz (.slice (some ⟨g, 0, Option.none⟩) n cap) n xs := by
  refine ⟨hx, ?_⟩
  rcases h.2 with ⟨h0, _⟩ | ⟨g', cap', cur, h1, h2, h3, h4, h5, h6, h7⟩
  · cases h0
  · injection h1 with e1 e2 e3
    subst e3
    refine .inr ⟨g, cap, cur, rfl, ?_, ?_, by omega, h5, h6, ?_⟩
    · injection e1 with e1; injection e1 with e1; subst e1; exact h2
    · injection e1 with e1; injection e1 with e1; subst e1; exact h3
    · have := congrArg (List.take (n * sz)) h7
      rw [List.take_take, Nat.min_eq_left (Nat.mul_le_mul_right sz (Nat.le_succ n)), List.take_append_of_le_length (by omega)] at this
      rw [this, List.take_of_length_le (by omega)]
/-- A cell of a row that the call owns. -/
theorem own_cell {w : World} {B sz n g cap : Nat} {e : TypeId} {xs : List Value} (h : w.ownsRow B e sz (.slice (some ⟨g, 0, Option.none⟩) n cap) n xs) {j : Nat} {u : Value} (hu : xs[j]? = some u) : w.cell? ⟨g, j, Option.none⟩ = some u := by
  have hc := h.cells (g := g) rfl j u hu
  have e1 : (⟨g, 0, Option.none⟩ : Addr).add j = ⟨g, j, Option.none⟩ := by simp [Addr.add]; omega
  rwa [e1] at hc
/-- What is left to do: rows of statements, each in its slice. -/
abbrev TdS := List (SF × Value)
/-- A new block that is stored into at once. -/
theorem newblk {w W : World} {arr : Array Value} {t : TypeId} {vs : List Value} (hn : vs.length ≤ arr.size) (hW : (w.alloc (.cells arr t)).setCells w.heap.size 0 vs = W) : W.rangeAt w.heap.size 0 vs ∧ Below w.heap.size w W := by
  have e : (w.alloc (.cells arr t)).heap[w.heap.size]? = some (.cells arr t (0, 0)) := by show (w.heap.push _)[w.heap.size]? = _; simp
  subst hW
  exact ⟨World.rangeAt_setCells_same _ _ _ _ (blk_there e hn), below_sets _ _ (alloc_below _ _) (Nat.le_refl _)⟩
theorem newthere (w : World) (t : TypeId) : (w.alloc (.cells zero19 t)).there w.heap.size 0 19 := blk_there (arr := zero19) (t := t) (by show (w.heap.push _)[w.heap.size]? = _; simp) (Nat.le_refl 19)
theorem new1 (w : World) (u : Value) (t : TypeId) : ∀ j x, [u][j]? = some x → (w.alloc (.cells #[u] t)).cell? ((⟨w.heap.size, 0, Option.none⟩ : Addr).add j) = some x := by
  intro j x h
  have e : (w.alloc (.cells #[u] t)).heap[w.heap.size]? = some (.cells #[u] t (0, 0)) := by show (w.heap.push _)[w.heap.size]? = _; simp
  match j, h with
  | 0, h =>
    have e0 : (⟨w.heap.size, 0, Option.none⟩ : Addr).add 0 = ⟨w.heap.size, 0, Option.none⟩ := by simp [Addr.add]
    rw [e0]; simp only [World.cell?, e]; simpa using h
  | j + 1, h => simp at h
theorem newblkS {w W : World} {t : TypeId} (h : SH) (v1 v2 v3 v4 v : Value) (hW : (w.alloc (.cells zero19 t)).setCells w.heap.size 0 (scells h v1 v2 v3 v4 v) = W) : W.rangeAt w.heap.size 0 (scells h v1 v2 v3 v4 v) ∧ Below w.heap.size w W := newblk (arr := zero19) (Nat.le_refl 19) hW
/-- One more to do. -/
theorem snocS {w w5 w6 : World} {td : TdS} {t v' u : Value} {l : SF} {o : Obj} (hown : w5.ownsRow w.heap.size 27 1 t td.length (td.map (·.2))) (hb : Below w.heap.size w w5) (hg : (w5.alloc o).grownBy w6 t.ownBlock)
    (h : w6.ownsRow w.heap.size 27 1 v' (td.length + 1) (td.map (·.2) ++ [u])) : w6.ownsRow w.heap.size 27 1 v' (td ++ [(l, u)]).length ((td ++ [(l, u)]).map (·.2)) ∧ Below w.heap.size w w6 :=
  ⟨by rw [List.length_append, List.map_append]; exact h, (hb.alloc hb.size o).grown hg (by have := hb.size; simp; omega) (fun k hk => (hown.lt k hk).1)⟩
theorem infoSS : (Try.prog.info? 27).map (fun i => (i.zero, i.size, i.bytes)) = some (some (.slice Option.none 0 0), 1, 24) := by kernel_rfl

abbrev zero4 : Array Value := #[.int .i64 0, .int .i64 0, .string ⟨#[]⟩, .slice Option.none 0 0]
theorem newthere4 (w : World) (t : TypeId) : (w.alloc (.cells zero4 t)).there w.heap.size 0 4 := blk_there (arr := zero4) (t := t) (by show (w.heap.push _)[w.heap.size]? = _; simp) (Nat.le_refl 4)
theorem newblk4 {w W : World} {t : TypeId} (x : X) (v : Value) (hW : (w.alloc (.cells zero4 t)).setCells w.heap.size 0 (xcells x v) = W) : W.rangeAt w.heap.size 0 (xcells x v) ∧ Below w.heap.size w W := newblk (arr := zero4) (Nat.le_refl 4) hW
/-- Blocks from lo up to hi may turn, and memory may grow; nothing else turns. -/
structure Gap (lo hi : Nat) (w w' : World) : Prop where
  os : w'.os = w.os
  tape : w'.tape = w.tape
  output : w'.output = w.output
  size : w.heap.size ≤ w'.heap.size
  block : ∀ k, k < w.heap.size → (k < lo ∨ hi ≤ k) → w'.heap[k]? = w.heap[k]?
theorem Gap.refl (lo hi : Nat) (w : World) : Gap lo hi w w := ⟨rfl, rfl, rfl, Nat.le_refl _, fun _ _ _ => rfl⟩
theorem Gap.trans {lo hi : Nat} {w w1 w2 : World} (h : Gap lo hi w w1) (g : Gap lo hi w1 w2) : Gap lo hi w w2 :=
  ⟨g.os.trans h.os, g.tape.trans h.tape, g.output.trans h.output, Nat.le_trans h.size g.size, fun k hk hc => (g.block k (Nat.lt_of_lt_of_le hk h.size) hc).trans (h.block k hk hc)⟩
theorem Gap.of (lo hi : Nat) {w w' : World} (h : Below w.heap.size w w') : Gap lo hi w w' := ⟨h.os, h.tape, h.output, h.size, fun k hk _ => h.block k hk⟩
theorem Gap.below {lo hi n : Nat} {w w' : World} (h : Gap lo hi w w') (hn : n ≤ lo) (hw : n ≤ w.heap.size) : Below n w w' := ⟨h.os, h.tape, h.output, h.size, fun k hk => h.block k (by omega) (.inl (by omega))⟩
theorem Gap.wider {lo hi lo' hi' : Nat} {w w' : World} (h : Gap lo hi w w') (h1 : lo' ≤ lo) (h2 : hi ≤ hi') : Gap lo' hi' w w' := ⟨h.os, h.tape, h.output, h.size, fun k hk hc => h.block k hk (by omega)⟩
theorem ownM {w w' : World} {lo hi B sz n : Nat} {e : TypeId} {v : Value} {xs : List Value} (h : w.ownsRow B e sz v n xs) (hb : Gap lo hi w w') (hB : hi ≤ B) : w'.ownsRow B e sz v n xs := by
  refine ⟨h.1, ?_⟩
  rcases h.2 with h0 | ⟨g, cap, cur, h1, h2, h3, h4⟩
  · exact .inl h0
  · exact .inr ⟨g, cap, cur, h1, h2, (hb.block g (lt_heap h3) (.inr (by omega))).trans h3, h4⟩
/-- What does not lie there need not be told apart. -/
def Quiet {α : Type} (lo hi : Nat) (J : List α → World → Prop) : Prop := ∀ vs w1 w2, J vs w1 → w1.heap.size ≤ w2.heap.size → (∀ k, lo ≤ k → k < hi → w2.heap[k]? = w1.heap[k]?) → J vs w2
theorem Quiet.below {α : Type} {lo hi : Nat} {J : List α → World → Prop} (q : Quiet lo hi J) {vs : List α} {w1 w2 : World} (h : J vs w1) (hh : hi ≤ w1.heap.size) (hb : Below w1.heap.size w1 w2) : J vs w2 := q vs w1 w2 h hb.size fun k _ hk => hb.block k (by omega)
/-- A statement and what stands under it. -/
abbrev SN := SH × SF
/-- All that stand in a row, and under them. -/
def sall : SF → List SN
  | .nil => []
  | .node _ _ h l r => (h, l) :: (sall l ++ sall r)
theorem sall_len : ∀ F : SF, (sall F).length = snodes F
  | .nil => rfl
  | .node _ _ h l r => by have := sall_len l; have := sall_len r; simp only [sall, snodes, List.length_cons, List.length_append]; omega
def tall : TdS → List SN
  | [] => []
  | p :: r => sall p.1 ++ tall r
theorem tall_app (a b : TdS) : tall (a ++ b) = tall a ++ tall b := by
  induction a with
  | nil => rfl
  | cons p a ih => simp only [List.cons_append, tall, ih, List.append_assoc]
/-- The state between two rounds. -/
structure VisS (w : World) (F : SF) (td : TdS) (vs : List SN) (m : Nat) : Prop where
  all : ∀ p ∈ td, SV w 0 p.1 p.2
  perm : (vs ++ tall td).Perm (sall F)
  len : td.length + (tall td).length = m
  big : m ≤ snodes F + 1
/-- Within a round: R is what of the row is still to be looked at. -/
structure VisR (w : World) (F : SF) (td : TdS) (vs : List SN) (m : Nat) (R G : SF) (k b o : Nat) : Prop where
  all : ∀ p ∈ td, SV w 0 p.1 p.2
  perm : (vs ++ (tall td ++ sall R)).Perm (sall F)
  len : td.length + (tall td).length + (sall R).length + 1 = m
  big : m ≤ snodes F + 1
  at_ : SIn w 0 R b (o + k * 19)
  num : k + slen R = slen G
theorem VisS.pop {w : World} {F : SF} {td : TdS} {vs : List SN} {m : Nat} {p : SF × Value} {b o : Nat} (h : VisS w F (td ++ [p]) vs m) (hin : SIn w 0 p.1 b o) : VisR w F td vs m p.1 p.1 0 b o := by
  have h1 := h.perm; have h2 := h.len; have h3 := h.big
  rw [tall_app] at h1 h2
  simp only [tall, List.length_append, List.length_cons, List.length_nil, List.append_nil] at h1 h2
  exact ⟨fun q hq => h.all q (List.mem_append_left _ hq), h1, by omega, h3, by simpa using hin, by omega⟩
theorem VisR.push {w : World} {F : SF} {td : TdS} {vs : List SN} {m p q : Nat} {hd : SH} {l r G : SF} {k b o : Nat} {u : Value} (h : VisR w F td vs m (.node p q hd l r) G k b o) (hu : SV w 0 l u) : VisR w F (td ++ [(l, u)]) (vs ++ [(hd, l)]) m r G (k + 1) b o := by
  have h1 := h.perm; have h2 := h.len; have h4 := h.num
  simp only [sall, slen, List.length_cons, List.length_append] at h1 h2 h4
  refine ⟨fun q hq => ?_, ?_, ?_, h.big, ?_, by omega⟩
  · rcases List.mem_append.1 hq with hq | hq
    · exact h.all q hq
    · simp only [List.mem_cons, List.not_mem_nil, or_false] at hq; subst hq; exact hu
  · refine List.Perm.trans ?_ h1
    rw [tall_app]
    simp only [tall, List.append_nil, List.append_assoc, List.singleton_append, List.cons_append, List.nil_append]
    exact (List.perm_middle.symm).append_left vs
  · rw [tall_app]; simp only [tall, List.length_append, List.length_cons, List.length_nil]; omega
  · rw [show o + (k + 1) * 19 = o + k * 19 + 19 by omega]; exact (SIn_node.1 h.at_).2
theorem VisR.done {w : World} {F : SF} {td : TdS} {vs : List SN} {m : Nat} {G : SF} {k b o : Nat} (h : VisR w F td vs m .nil G k b o) : VisS w F td vs (m - 1) := by
  have h1 := h.perm; have h2 := h.len; have h3 := h.big
  simp only [sall, List.length_nil, List.append_nil] at h1 h2
  exact ⟨h.all, h1, by omega, by omega⟩
theorem VisR.mem {w : World} {F : SF} {td : TdS} {vs : List SN} {m p q : Nat} {hd : SH} {l r G : SF} {k b o : Nat} (h : VisR w F td vs m (.node p q hd l r) G k b o) : (hd, l) ∈ sall F ∧ vs.length < snodes F := by
  have h1 := h.perm
  refine ⟨h1.subset (by simp [sall]), ?_⟩
  have := h1.length_eq
  rw [sall_len] at this
  simp only [sall, List.length_append, List.length_cons] at this
  omega
/-- One more to do. -/
theorem snocG {w w5 w6 : World} {lo hi : Nat} {td : TdS} {t v' u : Value} {l : SF} {o : Obj} (hown : w5.ownsRow w.heap.size 27 1 t td.length (td.map (·.2))) (hb : Gap lo hi w w5) (hg : (w5.alloc o).grownBy w6 t.ownBlock)
    (h : w6.ownsRow w.heap.size 27 1 v' (td.length + 1) (td.map (·.2) ++ [u])) : w6.ownsRow w.heap.size 27 1 v' (td ++ [(l, u)]).length ((td ++ [(l, u)]).map (·.2)) ∧ Gap lo hi w w6 ∧ w5.heap.size ≤ w6.heap.size ∧ ∀ k, k < w.heap.size → w6.heap[k]? = w5.heap[k]? := by
  have hbl : Below w.heap.size w5 w6 := ((Below.refl w.heap.size w5).alloc hb.size o).grown hg (by have := hb.size; simp; omega) (fun k hk => (hown.lt k hk).1)
  refine ⟨by rw [List.length_append, List.map_append]; exact h, ?_, hbl.size, hbl.block⟩
  exact ⟨hbl.os.trans hb.os, hbl.tape.trans hb.tape, hbl.output.trans hb.output, Nat.le_trans hb.size hbl.size, fun k hk hc => (hbl.block k hk).trans (hb.block k hk hc)⟩
/-- What is handed to visitAll to do at each. -/
def DoesS (w0 : World) (n lo hi : Nat) (F : SF) (kf : Nat) (caps : Array Value) (J : List SN → World → Prop) : Prop :=
  ∀ (vs : List SN) (h : SH) (l : SF) (v1 v2 v3 v4 u : Value) (w1 : World), J vs w1 → Below w0.heap.size w0 w1 → n ≤ w1.heap.size → HV w0 0 h v1 v2 v3 v4 → SV w0 0 l u → (h, l) ∈ sall F → vs.length < snodes F →
    Calls Try.prog kf (#[sagg h v1 v2 v3 v4 u] ++ caps) w1 fun e w2 => e = .returned (.tuple #[]) ∧ J (vs ++ [(h, l)]) w2 ∧ Gap lo hi w1 w2
set_option maxHeartbeats 4000000 in
set_option maxRecDepth 100000 in
theorem visitAllS_is (F : SF) (hF : snodes F ≤ 10000000) (w0 w : World) (hb0 : Below w0.heap.size w0 w) (lo hi : Nat) (hlo : w0.heap.size ≤ lo) (hhi : hi ≤ w.heap.size) (v : Value) (hv : SV w0 0 F v) (kf : Nat) (hent : ∀ (args : Array Value) (w : World), (callFunc kf args).run Try.prog w = .ok (.enter kf args) w) (caps : Array Value) (J : List SN → World → Prop) (hq : Quiet lo hi J) (hJ : J [] w) (hdo : DoesS w0 w.heap.size lo hi F kf caps J) :
    Calls Try.prog 36 #[v, .func (.func 37) #[] #[], .func (.func kf) #[] caps] w fun e w' => e = .returned (.tuple #[]) ∧ (∃ vs, J vs w' ∧ vs.Perm (sall F)) ∧ Gap lo hi w w' := by
  obtain ⟨i0, hi0, hz0, hz1, hz2⟩ := info_parts infoSS
  have C0 : Hid (VisS w0 F [(F, v)] [] (snodes F + 1)) := ⟨fun p hp => by simp only [List.mem_cons, List.not_mem_nil, or_false] at hp; subst hp; exact hv, by simp [tall], by simp [tall, sall_len]; omega, Nat.le_refl _⟩
  have Hdo := Lib.hid hdo
  have Hq := Lib.hid hq
  have HJ := Lib.hid hJ
  have Hb0 := Lib.hid hb0
  have hsz0 := hb0.size
  obtain ⟨a0, c0, rfl⟩ := hv.shape
  clear hv hdo hq hJ hb0
  go_enter Try.func36, Try.ntmps36
  go_wp2
  go_loopg [6] (snodes F + 1) (fun m t wr => ∃ (td : TdS) (vs : List SN), Hid (VisS w0 F td vs m) ∧ wr.ownsRow w.heap.size 27 1 t td.length (td.map (·.2)) ∧ Hid (J vs wr) ∧ Gap lo hi w wr)
  case atStart => exact ⟨[(F, .slice a0 (slen F) c0)], [], C0.out, ⟨rfl, .inr ⟨w.heap.size, 1, #[.slice a0 (slen F) c0], rfl, Nat.le_refl _, (by show (w.heap.push _)[w.heap.size]? = _; simp), Nat.le_refl _, (by unfold maxLen; omega), rfl, rfl⟩⟩, Hq.out.below HJ.out hhi (alloc_below _ _), Gap.of _ _ (alloc_below _ _)⟩
  case round =>
    obtain ⟨td, vs, hC, hown, hJv, hbw⟩ := hrel
    clear C0
    rcases List.eq_nil_or_concat td with rfl | ⟨ti, p, htd⟩
    · obtain ⟨a, cap, rfl⟩ := own_none hown
      have hs := hC.out.perm
      simp only [tall, List.append_nil] at hs
      have Hs := Lib.hid hs
      clear hs
      go_wp2
      go_end0
      exact ⟨rfl, ⟨vs, hJv.out, Hs.out⟩, hbw⟩
    · rw [List.concat_eq_append] at htd
      subst htd
      rw [List.length_append, List.map_append] at hown
      obtain ⟨g, cap, rfl, hc1, hc2, hBg, hg⟩ := own_some hown
      have hcell := own_cell hown (j := ti.length) (u := p.2) (by rw [List.getElem?_append_right (by simp)]; simp)
      have hpop := own_pop hown (by simp)
      obtain ⟨b, o, pa, pc, hpv, hpa, _, hpin⟩ := hC.out.all p (by simp)
      have hR := hC.out.pop hpin
      rw [hpv] at hcell
      have hnp : slen p.1 ≤ 10000000 := by have := hR.len; have := hR.big; have := slen_le p.1; rw [sall_len] at *; omega
      have hlen : ti.length ≤ 10000001 := by have := hR.len; have := hR.big; omega
      have HR := Lib.hid hR
      have hcapI : (ti.length : Int) + 1 ≤ (cap : Int) := by omega
      have hlenI : (ti.length : Int) ≤ 10000001 := by omega
      have hmx : (cap : Int) ≤ 9223372036854775807 := by unfold maxLen at hc2; omega
      clear hC hown hpin hR hc1 hlen hc2
      go_wp2
      go_loopw [6, 28] (fun t i wr2 => ∃ (td : TdS) (vs : List SN) (R : SF) (k : Nat), i = .int .i64 (k : Int) ∧ Hid (VisR w0 F td vs gk R p.1 k b o) ∧ wr2.ownsRow w.heap.size 27 1 t td.length (td.map (·.2)) ∧ Hid (J vs wr2) ∧ Gap lo hi w wr2) (fun _ i _ => slen p.1 - (RowKit.intOf i).toNat)
      case atStart => exact ⟨ti, vs, p.1, 0, rfl, HR.out, hpop, hJv.out, hbw⟩
      case round =>
        obtain ⟨td, vs, R, k, rfl, hR, hown, hJv2, hbr⟩ := hrel
        clear hcell hpop HR hbw hJv
        cases R with
        | nil =>
          have hk : ¬ (k : Int) < (slen p.1 : Int) := by have := hR.out.num; simp only [slen] at this; omega
          go_wp2
          go_roundg (gk - 1)
          case measure => have := hR.out.len; omega
          case rel => exact ⟨td, vs, hR.out.done, hown, hJv2, hbr⟩
        | node p' q' h l r =>
          have hlt : (k : Int) < (slen p.1 : Int) := by have := hR.out.num; simp only [slen] at this; omega
          have hne : ¬ p.1 = .nil := by intro e; have := hR.out.num; rw [e] at this; simp only [slen] at this; omega
          obtain rfl : pa = some ⟨b, o, Option.none⟩ := hpa.resolve_right hne
          have hbz : Below w0.heap.size w0 wr := Hb0.out.trans (hbr.below hlo hsz0)
          obtain ⟨v1, v2, v3, v4, u, hu, hul, hrg⟩ := (SIn_node.1 hR.out.at_).1.range
          have Hrg := Lib.hid (rangeAt_later hrg hbz)
          have Hbz := Lib.hid hbz
          have hR2 := Lib.hid (hR.out.push hul)
          have hM := Lib.hid hR.out.mem
          have HU := Lib.hid hu
          have HL := Lib.hid hul
          have o1 := hu.e1.isOne
          have o2 := hu.e2.isOne
          have o3 := hu.e3.isOne
          have o4 := hu.e4.isOne
          have o5 := hul.isOne
          obtain ⟨ua, uc, rfl⟩ := hul.shape
          have hn1 : td.length ≤ 10000001 := by have := hR.out.len; have := hR.out.big; omega
          have Hn1 := Lib.hid hn1
          have hsz := hbr.size
          clear hrg hu hul hR hne hn1 hpa hbz
          go_wp2_with (first | (refine wpList_load_mid rfl 29 _ rfl b (o + k * 19) rfl _ _ Hrg.out Try.underlying29 rfl sizeIS ?_) | (refine store_abs rfl 29 _ _ rfl _ _ _ rfl rfl ?ht sizeIS ?ho ?_; exact (newthere wr _); exact (oneS h v1 v2 v3 v4 _ o1 o2 o3 o4 o5); intro W hW; have HW := Lib.hid (newblkS h v1 v2 v3 v4 _ hW); clear hW) | (refine wpList_load_mid rfl 29 _ rfl wr.heap.size 0 rfl _ _ HW.out.1 Try.underlying29 rfl sizeIS ?_))
          refine (Hdo.out vs h l v1 v2 v3 v4 (.slice ua (slen l) uc) _ (Hq.out.below hJv2.out (Nat.le_trans hhi hsz) HW.out.2) (Hbz.out.trans (HW.out.2.mono Hbz.out.size)) (Nat.le_trans hsz HW.out.2.size) HU.out HL.out hM.out.1 hM.out.2).mono ?_
          rintro e w4 ⟨rfl, hJ4, hg4⟩
          have HJ4 := Lib.hid hJ4
          have hown4 := ownM (ownB hown HW.out.2) hg4 hhi
          have hbr4 := hbr.trans ((Gap.of lo hi HW.out.2).trans hg4)
          have hr4 : w4.rangeAt wr.heap.size 0 (scells h v1 v2 v3 v4 (.slice ua (slen l) uc)) := fun j x hx => by
            have h1 := HW.out.1 j x hx
            have h2 := lt_of_cellA h1
            have h3 := hg4.block wr.heap.size h2 (.inr (Nat.le_trans hhi hsz))
            unfold World.cell? at h1 ⊢
            simp only [h3]
            exact h1
          have Hr4 := Lib.hid hr4
          have hs4 := hbr4.size
          have hs4' := HW.out.2.size
          have hs4'' := hg4.size
          clear hJ4 hg4 hr4 hown hbr HW Hrg hJv2 HU HL
          go_wp2_with (refine wpList_load_mid rfl 29 _ rfl wr.heap.size 0 rfl _ _ Hr4.out Try.underlying29 rfl sizeIS ?_)
          refine (bodyOf_is h v1 v2 v3 v4 _ _).mono ?_
          rintro e w5 ⟨rfl, hb5⟩
          have hown5 := ownB hown4 hb5
          have hbr5 := hbr4.trans (Gap.of lo hi hb5)
          have HJ5 := Lib.hid (Hq.out.below HJ4.out (Nat.le_trans hhi hs4) hb5)
          have HO := Lib.hid hown5
          have hs5 := hbr5.size
          have hlt5 : td.length ≤ 10000001 := Hn1.out
          obtain ⟨ta, tc, rfl⟩ : ∃ ta tc, u6 = .slice ta td.length tc := by
            rcases hown5.2 with ⟨h1, h0⟩ | ⟨g, cap, cur, h1, _⟩
            · exact ⟨_, _, by rw [h0]; exact h1⟩
            · exact ⟨_, _, h1⟩
          clear hb5 hown4 hbr4 Hr4 o1 o2 o3 o4 o5
          go_wp2_with (at_builtin; refine wpList_append_own _ rfl _ _ 91 rfl w.heap.size 27 i0 _ 1 24 Try.underlying91 hi0 hz0 hz1 hz2 rfl (by decide) _ _ _ rfl (hown5.alloc _) ⟨w5.heap.size, 0, Option.none⟩ 1 1 [.slice ua (slen l) uc] rfl rfl ?c1 ?c2 ?c3 ?c4 ?c5 ?_)
          case c1 => exact new1 _ _ _
          case c2 => intro x hx; simp only [List.mem_cons, List.not_mem_nil, or_false] at hx; subst hx; rfl
          case c3 => unfold maxLen; omega
          case c4 => omega
          case c5 => simp; omega
          intro v' w6 hown' hgrow _
          obtain ⟨n1, n2, n3⟩ := snocG (l := l) hown5 hbr5 hgrow hown'
          have HJ6 := Lib.hid (Hq.out (vs ++ [(h, l)]) w5 w6 HJ5.out n3.1 (fun k _ hk => n3.2 k (by omega)))
          clear hown' hgrow hown5 hbr5 HO
          go_wp2
          go_roundw
          case rel => exact ⟨td ++ [(l, .slice ua (slen l) uc)], vs ++ [(h, l)], r, k + 1, by go_num, hR2, n1, HJ6, n2⟩
          case measure => simp [RowKit.intOf]; omega
end Go.Proofs.Ythokildkedlkfaa
