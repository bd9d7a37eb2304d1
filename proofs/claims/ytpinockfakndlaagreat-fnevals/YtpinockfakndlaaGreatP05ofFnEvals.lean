import Derived.Test.YtpinockfakndlaaGreatP04ofFnEvals
import Derived.Deep.Upon
namespace Go.Proofs.YtpinockfakndlaaGreat
open Go.RowKit Go.Lib
set_option maxRecDepth 100000
set_option maxHeartbeats 4000000
set_option linter.unusedSimpArgs false
set_option linter.unusedVariables false
def EVx (n : Nat) (w : World) (lo : Nat) (F : EF) (v : Value) : Prop := ∀ W : World, (∀ (a : Addr) u, lo ≤ a.block → a.block ≠ n → w.cell? a = some u → W.cell? a = some u) → EV W lo F v
theorem EVx.ev {n lo : Nat} {w : World} {F : EF} {v : Value} (h : EVx n w lo F v) : EV w lo F v := h w fun _ _ _ _ h => h
theorem EVx.step {n lo : Nat} {w w' : World} {F : EF} {v : Value} (h : EVx n w lo F v) (hs : ∀ (a : Addr) u, lo ≤ a.block → a.block ≠ n → w.cell? a = some u → w'.cell? a = some u) : EVx n w' lo F v := fun W hW => h W fun a u h1 h2 h3 => hW a u h1 h2 (hs a u h1 h2 h3)
theorem EVx.wr {n lo b : Nat} {w w' : World} {F : EF} {v : Value} (h : EVx n w lo F v) (hw : Wr b w w') (hb : b + 1 ≤ lo) : EVx n w' lo F v := h.step fun a u h1 _ hc => hw.keeps a u (by omega) hc
theorem EVx.sets {n lo : Nat} {w : World} {F : EF} {v : Value} (h : EVx n w lo F v) (o : Nat) (vs : List Value) : EVx n (w.setCells n o vs) lo F v := h.step fun a u _ h2 hc => by
  rw [World.cell?_setCells_out n vs o w a (fun e _ => absurd e h2)]; exact hc
theorem EVx.of_old {n lo b : Nat} {w2 w : World} {F : EF} {v : Value} (h : EV w2 lo F v) (hw : Wr b w2 w) (hb : b + 1 ≤ lo) (hn : w2.heap.size ≤ n) : EVx n w lo F v := fun W hW =>
  h.same (Nat.le_refl _) fun a u hl hc => hW a u hl (by have := lt_of_cellA hc; omega) (hw.keeps a u (by omega) hc)
structure VarX (B : Nat) (a : Option Addr) (len cap b : Nat) (w0 : World) (N n : Nat) (x : X) (v : Value) (w : World) : Prop where
  rg : w.rangeAt n 0 (xC x v)
  th : w.there n 0 4
  ex : EVx n w (N + 1) x.l v
  dw : Dw B a len cap b w
  wr : Wr b w0 w
  thN : w.there N 0 4
  hN : w0.heap.size = N
  hn : N < n
  hb : b < N
section
variable {B : Nat} {a : Option Addr} {len cap b : Nat} {w0 : World} {N n : Nat} {x : X} {v : Value} {w : World}
theorem VarX.step {w' : World} (h : VarX B a len cap b w0 N n x v w) (hw : Wr b w w') (d : Dw B a len cap b w') : VarX B a len cap b w0 N n x v w' :=
  ⟨range_wr h.rg hw (by have := h.hn; have := h.hb; omega), there_wr h.th hw (by have := h.hn; have := h.hb; omega), h.ex.wr hw (by have := h.hb; omega), d, h.wr.trans hw, there_wr h.thN hw (by have := h.hb; omega), h.hN, h.hn, h.hb⟩
theorem VarX.later {w' : World} (h : VarX B a len cap b w0 N n x v w) (hb : Below w.heap.size w w') : VarX B a len cap b w0 N n x v w' := h.step (.of_below hb) (h.dw.later hb)
theorem VarX.sets {y : X} {u : Value} (h : VarX B a len cap b w0 N n x v w) (he : EVx n w (N + 1) y.l u) : VarX B a len cap b w0 N n y u (w.setCells n 0 (xC y u)) := by
  have hB : Below n w (w.setCells n 0 (xC y u)) := below_sets _ _ (Below.refl _ _) (Nat.le_refl _)
  have hs : w.heap.size ≤ (w.setCells n 0 (xC y u)).heap.size := by rw [size_sets]; exact Nat.le_refl _
  refine ⟨World.rangeAt_setCells_same _ _ _ _ h.th, World.there_setCells h.th _ _ _, he.sets _ _, ⟨h.dw.hlen, h.dw.hB, h.dw.hC.later (hB.mono (by have := h.dw.hB; have := h.hb; have := h.hn; omega)), h.dw.cur.later (hB.block b (by have := h.hb; have := h.hn; omega))⟩, ?_, World.there_setCells h.thN _ _ _, h.hN, h.hn, h.hb⟩
  exact ⟨hB.os.trans h.wr.os, hB.tape.trans h.wr.tape, hB.output.trans h.wr.output, Nat.le_trans h.wr.size hs, fun k hk hne => (hB.block k (by have := h.hN; have := h.hn; omega)).trans (h.wr.block k hk hne)⟩
theorem VarX.cells (h : VarX B a len cap b w0 N n x v w) : (w.cell? ⟨n, 0, Option.none⟩ = some (.int .i64 x.h.k) ∧ w.cell? ⟨n, 1, Option.none⟩ = some (.int .i64 x.h.n) ∧ w.cell? ⟨n, 2, Option.none⟩ = some (.string x.h.s) ∧ w.cell? ⟨n, 3, Option.none⟩ = some v) ∧ w.frozen? ⟨n, 0, Option.none⟩ = false ∧ w.frozen? ⟨n, 1, Option.none⟩ = false ∧ w.frozen? ⟨n, 2, Option.none⟩ = false := by
  have r0 := h.rg 0 _ rfl; have r1 := h.rg 1 _ rfl; have r2 := h.rg 2 _ rfl; have r3 := h.rg 3 _ rfl
  have t0 := (h.th 0 (by omega)).2; have t1 := (h.th 1 (by omega)).2; have t2 := (h.th 2 (by omega)).2
  simp only [Nat.zero_add, Nat.add_zero] at r0 r1 r2 r3 t0 t1 t2
  exact ⟨⟨r0, r1, r2, r3⟩, t0, t1, t2⟩
theorem VarX.set {y : X} (h : VarX B a len cap b w0 N n x v w) (i : Nat) (u : Value) (hi : i < 3) (hl : y.l = x.l) (hc : (xC x v).set i u = xC y v) : VarX B a len cap b w0 N n y v (w.setCell ⟨n, i, Option.none⟩ u) := by
  have e : w.setCell ⟨n, i, Option.none⟩ u = w.setCells n i [u] := rfl
  rw [e]
  have hB : Below n w (w.setCells n i [u]) := below_sets _ _ (Below.refl _ _) (Nat.le_refl _)
  have hs : w.heap.size ≤ (w.setCells n i [u]).heap.size := by rw [size_sets]; exact Nat.le_refl _
  have hth : w.there n i 1 := by have := there_part h.th i 1 (by omega); rwa [Nat.zero_add] at this
  refine ⟨?_, World.there_setCells h.th _ _ _, by rw [hl]; exact h.ex.sets _ _, ⟨h.dw.hlen, h.dw.hB, h.dw.hC.later (hB.mono (by have := h.dw.hB; have := h.hb; have := h.hn; omega)), h.dw.cur.later (hB.block b (by have := h.hb; have := h.hn; omega))⟩, ?_, World.there_setCells h.thN _ _ _, h.hN, h.hn, h.hb⟩
  · rw [← hc]
    intro j z hj
    rw [Nat.zero_add]
    by_cases hji : j = i
    · subst hji
      have hlen : j < (xC x v).length := by simp [xC]; omega
      rw [List.getElem?_set_self hlen] at hj
      have := World.rangeAt_setCells_same w n j [u] hth 0 u rfl
      rw [Nat.add_zero] at this
      rw [this]; exact hj
    · rw [List.getElem?_set_ne (fun e => hji e.symm)] at hj
      have hr := h.rg j z hj
      rw [Nat.zero_add] at hr
      rw [World.cell?_setCells_out n [u] i w ⟨n, j, Option.none⟩ (fun _ _ => by simp only [List.length_cons, List.length_nil]; omega)]
      exact hr
  · exact ⟨hB.os.trans h.wr.os, hB.tape.trans h.wr.tape, hB.output.trans h.wr.output, Nat.le_trans h.wr.size hs, fun k hk hne => (hB.block k (by have := h.hN; have := h.hn; omega)).trans (h.wr.block k hk hne)⟩
end
theorem l3Two_at (k : Int) (x y : X) (lo : Nat) (w : World) (u v : Value) (hu : EV w lo x.l u) (hv : EV w lo y.l v) : Calls Tryz.prog 75 #[.int .i64 k, .agg (xC x u).toArray, .agg (xC y v).toArray] w fun e w' => ∃ g, e = .returned (.agg (xC ⟨⟨k, 0, ⟨#[]⟩⟩, .node 0 0 x.h x.l (.node 0 0 y.h y.l .nil)⟩ (.slice (some ⟨g, 0, Option.none⟩) 2 2)).toArray) ∧ w.heap.size ≤ g ∧ w'.rangeAt g 0 (xC x u ++ xC y v) ∧ Below w.heap.size w w' := by
  show Calls Tryz.prog 75 #[.int .i64 k, .agg #[.int .i64 x.h.k, .int .i64 x.h.n, .string x.h.s, u], .agg #[.int .i64 y.h.k, .int .i64 y.h.n, .string y.h.s, v]] w _
  obtain ⟨ua, uc, rfl⟩ := hu.shape
  obtain ⟨va, vc, rfl⟩ := hv.shape
  clear hu hv
  go_enter Tryz.func75, Tryz.ntmps75
  go_wp2
  have hb := (((aB w (.cells #[.int .i64 x.h.k, .int .i64 x.h.n, .string x.h.s, .slice ua (elen x.l) uc] 43)).alloc (by simp) (.cells #[.int .i64 y.h.k, .int .i64 y.h.n, .string y.h.s, .slice va (elen y.l) vc] 43)).alloc (by simp; omega) (.cells #[.int .i64 k, .int .i64 0, .string ⟨#[]⟩, .slice (some ⟨w.heap.size + 1 + 1 + 1, 0, Option.none⟩) 2 2] 43)).alloc (by simp; omega) (.cells (xC x (.slice ua (elen x.l) uc) ++ xC y (.slice va (elen y.l) vc)).toArray 43)
  refine bodyPost_ret (v := .agg #[.int .i64 k, .int .i64 0, .string ⟨#[]⟩, .slice (some ⟨w.heap.size + 1 + 1 + 1, 0, Option.none⟩) 2 2]) (by simp [results, Tryz.results75, go_sem]) rfl ⟨_, rfl, by omega, last_range _ _ _ _ (by simp), hb⟩
theorem okOdd : ∀ z ∈ ([-1, 999999, 1000000] : List Int), True := fun _ _ => trivial
theorem okWords : ∀ z ∈ ([⟨#[]⟩, ⟨#[102, 111, 114]⟩, ⟨#[120]⟩] : List ByteArray), z.size ≤ 3 := by decide
def limA : Nat := 300
def ERx (g : Nat) (w : World) (lo : Nat) : EF → List Value → Prop
  | .nil, xs => xs = []
  | .node _ _ h l r, xs => ∃ v ys, xs = .int .i64 h.k :: .int .i64 h.n :: .string h.s :: v :: ys ∧ EVx g w lo l v ∧ ERx g w lo r ys
theorem EVx.later {g lo : Nat} {w w' : World} {F : EF} {v : Value} (h : EVx g w lo F v) (hb : Below w.heap.size w w') : EVx g w' lo F v := h.step fun a u _ _ hc => keeps hb hc
theorem EVx.fresh {g lo lo' : Nat} {w : World} {F : EF} {v : Value} (h : EV w lo' F v) (hl : lo ≤ lo') (hg : g < lo') : EVx g w lo F v := fun W hW => h.same hl fun a u h1 hc => hW a u (by omega) (by omega) hc
def gOf (t : Value) : Nat := (t.ownBlock).getD 0
theorem EVx.grow {g' lo : Nat} {w w' : World} {t : Value} {F : EF} {v : Value} (h : EVx (gOf t) w lo F v) (hl : 0 < lo) (hg : w.grownBy w' t.ownBlock) (hat : t.ownBlock = some g' ∨ w.heap.size ≤ g') : EVx g' w' lo F v := fun W hW => h W fun a u h1 h2 hc => by
  have hlt := lt_of_cellA hc
  have hne : some a.block ≠ t.ownBlock := by
    intro e
    apply h2
    unfold gOf
    rw [← e]; rfl
  have hb := hg.block a.block hlt hne
  refine hW a u h1 ?_ (by rw [World.cell?_of_block hb]; exact hc)
  rcases hat with e | e
  · intro e2; exact hne (by rw [e, e2])
  · omega
theorem there_grown {w w6 : World} {r : Option Nat} {n o m : Nat} (h : w.there n o m) (hg : w.grownBy w6 r) (hne : r ≠ some n) : w6.there n o m := fun j hj => by
  obtain ⟨h1, h2⟩ := h j hj
  obtain ⟨u, hu⟩ := Option.isSome_iff_exists.1 h1
  have e := hg.block n (lt_of_cellA hu) (fun e => hne e.symm)
  refine ⟨by rw [World.cell?_of_block (a := ⟨n, o + j, Option.none⟩) e, hu]; rfl, ?_⟩
  unfold World.frozen? at h2 ⊢
  simp only [e]
  exact h2
def SVx (n : Nat) (w : World) (lo : Nat) (F : SF) (v : Value) : Prop := ∀ W : World, (∀ (a : Addr) u, lo ≤ a.block → a.block ≠ n → w.cell? a = some u → W.cell? a = some u) → SV W lo F v
theorem SVx.sv {n lo : Nat} {w : World} {F : SF} {v : Value} (h : SVx n w lo F v) : SV w lo F v := h w fun _ _ _ _ h => h
theorem SVx.step {n lo : Nat} {w w' : World} {F : SF} {v : Value} (h : SVx n w lo F v) (hs : ∀ (a : Addr) u, lo ≤ a.block → a.block ≠ n → w.cell? a = some u → w'.cell? a = some u) : SVx n w' lo F v := fun W hW => h W fun a u h1 h2 h3 => hW a u h1 h2 (hs a u h1 h2 h3)
theorem SVx.wr {n lo b : Nat} {w w' : World} {F : SF} {v : Value} (h : SVx n w lo F v) (hw : Wr b w w') (hb : b + 1 ≤ lo) : SVx n w' lo F v := h.step fun a u h1 _ hc => hw.keeps a u (by omega) hc
theorem SVx.sets {n lo : Nat} {w : World} {F : SF} {v : Value} (h : SVx n w lo F v) (o : Nat) (vs : List Value) : SVx n (w.setCells n o vs) lo F v := h.step fun a u _ h2 hc => by
  rw [World.cell?_setCells_out n vs o w a (fun e _ => absurd e h2)]; exact hc
theorem SVx.fresh {g lo lo' : Nat} {w : World} {F : SF} {v : Value} (h : SV w lo' F v) (hl : lo ≤ lo') (hg : g < lo') : SVx g w lo F v := fun W hW => h.same hl fun a u h1 hc => hW a u (by omega) (by omega) hc
theorem SVx.nil (n : Nat) (w : World) (lo : Nat) (a : Option Addr) (c : Nat) : SVx n w lo .nil (.slice a 0 c) := fun W _ => SV.nil W lo a c
theorem EVx.nil (n : Nat) (w : World) (lo : Nat) (a : Option Addr) (c : Nat) : EVx n w lo .nil (.slice a 0 c) := fun W _ => EV.nil W lo a c
theorem SVx.grow {g' lo : Nat} {w w' : World} {t : Value} {F : SF} {v : Value} (h : SVx (gOf t) w lo F v) (hg : w.grownBy w' t.ownBlock) (hat : t.ownBlock = some g' ∨ w.heap.size ≤ g') : SVx g' w' lo F v := fun W hW => h W fun a u h1 h2 hc => by
  have hlt := lt_of_cellA hc
  have hne : some a.block ≠ t.ownBlock := by
    intro e
    apply h2
    unfold gOf
    rw [← e]; rfl
  have hb := hg.block a.block hlt hne
  refine hW a u h1 ?_ (by rw [World.cell?_of_block hb]; exact hc)
  rcases hat with e | e
  · intro e2; exact hne (by rw [e, e2])
  · omega
structure HVx (n : Nat) (w : World) (lo : Nat) (h : SH) (v1 v2 v3 v4 : Value) : Prop where
  e1 : EVx n w lo h.x1.l v1
  e2 : EVx n w lo h.x2.l v2
  e3 : EVx n w lo h.x3.l v3
  e4 : EVx n w lo h.x4.l v4
theorem HVx.map {n n' lo lo' : Nat} {w w' : World} {h : SH} {v1 v2 v3 v4 : Value} (x : HVx n w lo h v1 v2 v3 v4) (f : ∀ (F : EF) (v : Value), EVx n w lo F v → EVx n' w' lo' F v) : HVx n' w' lo' h v1 v2 v3 v4 := ⟨f _ _ x.e1, f _ _ x.e2, f _ _ x.e3, f _ _ x.e4⟩
theorem HVx.hv {n lo : Nat} {w : World} {h : SH} {v1 v2 v3 v4 : Value} (x : HVx n w lo h v1 v2 v3 v4) : HV w lo h v1 v2 v3 v4 := ⟨x.e1.ev, x.e2.ev, x.e3.ev, x.e4.ev⟩
structure VarS (B : Nat) (a : Option Addr) (len cap b : Nat) (w0 : World) (N n : Nat) (h : SH) (l : SF) (v1 v2 v3 v4 v : Value) (w : World) : Prop where
  rg : w.rangeAt n 0 (scells h v1 v2 v3 v4 v)
  th : w.there n 0 19
  ex : HVx n w (N + 1) h v1 v2 v3 v4
  sx : SVx n w (N + 1) l v
  dw : Dw B a len cap b w
  wr : Wr b w0 w
  thN : w.there N 0 19
  hN : w0.heap.size = N
  hn : N < n
  hb : b < N
section
variable {B : Nat} {a : Option Addr} {len cap b : Nat} {w0 : World} {N n : Nat} {h : SH} {l : SF} {v1 v2 v3 v4 v : Value} {w : World}
theorem VarS.step {w' : World} (s : VarS B a len cap b w0 N n h l v1 v2 v3 v4 v w) (hw : Wr b w w') (d : Dw B a len cap b w') : VarS B a len cap b w0 N n h l v1 v2 v3 v4 v w' :=
  ⟨range_wr s.rg hw (by have := s.hn; have := s.hb; omega), there_wr s.th hw (by have := s.hn; have := s.hb; omega), s.ex.map (fun _ _ e => e.wr hw (by have := s.hb; omega)), s.sx.wr hw (by have := s.hb; omega), d, s.wr.trans hw, there_wr s.thN hw (by have := s.hb; omega), s.hN, s.hn, s.hb⟩
theorem VarS.later {w' : World} (s : VarS B a len cap b w0 N n h l v1 v2 v3 v4 v w) (hb : Below w.heap.size w w') : VarS B a len cap b w0 N n h l v1 v2 v3 v4 v w' := s.step (.of_below hb) (s.dw.later hb)
theorem VarS.lt (s : VarS B a len cap b w0 N n h l v1 v2 v3 v4 v w) : n < w.heap.size := lt_of_cellA (s.rg 0 _ rfl)
theorem VarS.put {h' : SH} {l' : SF} {u1 u2 u3 u4 u : Value} (s : VarS B a len cap b w0 N n h l v1 v2 v3 v4 v w) (i : Nat) (us : List Value) (hi : i + us.length ≤ 19)
    (hc : scells h' u1 u2 u3 u4 u = (scells h v1 v2 v3 v4 v).take i ++ (us ++ (scells h v1 v2 v3 v4 v).drop (i + us.length))) (he : HVx n w (N + 1) h' u1 u2 u3 u4) (hs : SVx n w (N + 1) l' u) :
    VarS B a len cap b w0 N n h' l' u1 u2 u3 u4 u (w.setCells n i us) := by
  have hB : Below n w (w.setCells n i us) := below_sets _ _ (Below.refl _ _) (Nat.le_refl _)
  have hsz : w.heap.size ≤ (w.setCells n i us).heap.size := by rw [size_sets]; exact Nat.le_refl _
  have hth : w.there n i us.length := by have := there_part s.th i us.length hi; rwa [Nat.zero_add] at this
  have hlen : (scells h v1 v2 v3 v4 v).length = 19 := rfl
  refine ⟨?_, World.there_setCells s.th _ _ _, he.map (fun _ _ e => e.sets _ _), hs.sets _ _, ⟨s.dw.hlen, s.dw.hB, s.dw.hC.later (hB.mono (by have := s.dw.hB; have := s.hb; have := s.hn; omega)), s.dw.cur.later (hB.block b (by have := s.hb; have := s.hn; omega))⟩, ?_, World.there_setCells s.thN _ _ _, s.hN, s.hn, s.hb⟩
  · rw [hc]
    intro j z hj
    rw [Nat.zero_add]
    by_cases h1 : j < i
    · rw [List.getElem?_append_left (by rw [List.length_take]; omega), List.getElem?_take_of_lt h1] at hj
      rw [World.cell?_setCells_out n us i w ⟨n, j, Option.none⟩ (fun _ _ => by simp only []; omega)]
      have := s.rg j z hj; rwa [Nat.zero_add] at this
    · rw [List.getElem?_append_right (by rw [List.length_take]; omega), List.length_take, show min i (scells h v1 v2 v3 v4 v).length = i by omega] at hj
      by_cases h2 : j - i < us.length
      · rw [List.getElem?_append_left h2] at hj
        have := World.rangeAt_setCells_same w n i us hth (j - i) z hj
        rwa [show i + (j - i) = j by omega] at this
      · rw [List.getElem?_append_right (by omega), List.getElem?_drop, show i + us.length + (j - i - us.length) = j by omega] at hj
        rw [World.cell?_setCells_out n us i w ⟨n, j, Option.none⟩ (fun _ _ => by simp only []; omega)]
        have := s.rg j z hj; rwa [Nat.zero_add] at this
  · exact ⟨hB.os.trans s.wr.os, hB.tape.trans s.wr.tape, hB.output.trans s.wr.output, Nat.le_trans s.wr.size hsz, fun k hk hne => (hB.block k (by have := s.hN; have := s.hn; omega)).trans (s.wr.block k hk hne)⟩
theorem VarS.evx {w2 : World} {F : EF} {u : Value} (s : VarS B a len cap b w0 N n h l v1 v2 v3 v4 v w) (he : EV w2 w.heap.size F u) : EVx n w2 (N + 1) F u := EVx.fresh he (by have := s.lt; have := s.hn; omega) s.lt
theorem VarS.svx {w2 : World} {F : SF} {u : Value} (s : VarS B a len cap b w0 N n h l v1 v2 v3 v4 v w) (he : SV w2 w.heap.size F u) : SVx n w2 (N + 1) F u := SVx.fresh he (by have := s.lt; have := s.hn; omega) s.lt
theorem VarS.setS (s : VarS B a len cap b w0 N n h l v1 v2 v3 v4 v w) (t : ByteArray) : VarS B a len cap b w0 N n { h with s := t } l v1 v2 v3 v4 v (w.setCell ⟨n, 1, Option.none⟩ (.string t)) :=
  s.put 1 [.string t] (by simp) rfl ⟨s.ex.e1, s.ex.e2, s.ex.e3, s.ex.e4⟩ s.sx
theorem VarS.setK (s : VarS B a len cap b w0 N n h l v1 v2 v3 v4 v w) (k : Int) : VarS B a len cap b w0 N n { h with k := k } l v1 v2 v3 v4 v (w.setCell ⟨n, 0, Option.none⟩ (.int .i64 k)) :=
  s.put 0 [.int .i64 k] (by simp) rfl ⟨s.ex.e1, s.ex.e2, s.ex.e3, s.ex.e4⟩ s.sx
theorem VarS.set1 {x : X} {u : Value} (s : VarS B a len cap b w0 N n h l v1 v2 v3 v4 v w) (he : EVx n w (N + 1) x.l u) : VarS B a len cap b w0 N n { h with x1 := x } l u v2 v3 v4 v (w.setCells n 2 (xC x u)) :=
  s.put 2 (xC x u) (by simp [xC]) rfl ⟨he, s.ex.e2, s.ex.e3, s.ex.e4⟩ s.sx
theorem VarS.set2 {x : X} {u : Value} (s : VarS B a len cap b w0 N n h l v1 v2 v3 v4 v w) (he : EVx n w (N + 1) x.l u) : VarS B a len cap b w0 N n { h with x2 := x } l v1 u v3 v4 v (w.setCells n 6 (xC x u)) :=
  s.put 6 (xC x u) (by simp [xC]) rfl ⟨s.ex.e1, he, s.ex.e3, s.ex.e4⟩ s.sx
theorem VarS.set3 {x : X} {u : Value} (s : VarS B a len cap b w0 N n h l v1 v2 v3 v4 v w) (he : EVx n w (N + 1) x.l u) : VarS B a len cap b w0 N n { h with x3 := x } l v1 v2 u v4 v (w.setCells n 10 (xC x u)) :=
  s.put 10 (xC x u) (by simp [xC]) rfl ⟨s.ex.e1, s.ex.e2, he, s.ex.e4⟩ s.sx
theorem VarS.set4 {x : X} {u : Value} (s : VarS B a len cap b w0 N n h l v1 v2 v3 v4 v w) (he : EVx n w (N + 1) x.l u) : VarS B a len cap b w0 N n { h with x4 := x } l v1 v2 v3 u v (w.setCells n 14 (xC x u)) :=
  s.put 14 (xC x u) (by simp [xC]) rfl ⟨s.ex.e1, s.ex.e2, s.ex.e3, he⟩ s.sx
theorem VarS.setB {F : SF} {u : Value} (s : VarS B a len cap b w0 N n h l v1 v2 v3 v4 v w) (he : SVx n w (N + 1) F u) : VarS B a len cap b w0 N n h F v1 v2 v3 v4 u (w.setCell ⟨n, 18, Option.none⟩ u) :=
  s.put 18 [u] (by simp) rfl ⟨s.ex.e1, s.ex.e2, s.ex.e3, s.ex.e4⟩ he
theorem VarS.free (s : VarS B a len cap b w0 N n h l v1 v2 v3 v4 v w) : (w.cell? ⟨n, 0, Option.none⟩ = some (.int .i64 h.k) ∧ w.frozen? ⟨n, 0, Option.none⟩ = false) ∧ (w.cell? ⟨n, 1, Option.none⟩ = some (.string h.s) ∧ w.frozen? ⟨n, 1, Option.none⟩ = false) ∧ (w.cell? ⟨n, 18, Option.none⟩ = some v ∧ w.frozen? ⟨n, 18, Option.none⟩ = false) := by
  have r0 := s.rg 0 _ rfl; have r1 := s.rg 1 _ rfl; have r2 := s.rg 18 _ rfl
  have t0 := (s.th 0 (by omega)).2; have t1 := (s.th 1 (by omega)).2; have t2 := (s.th 18 (by omega)).2
  simp only [Nat.zero_add, Nat.add_zero] at r0 r1 r2 t0 t1 t2
  exact ⟨⟨r0, t0⟩, ⟨r1, t1⟩, r2, t2⟩
theorem VarS.part (s : VarS B a len cap b w0 N n h l v1 v2 v3 v4 v w) (i : Nat) (hi : i + 4 ≤ 19) : w.there n i 4 := by have := there_part s.th i 4 hi; rwa [Nat.zero_add] at this
theorem VarS.close {W : World} (s : VarS B a len cap b w0 N n h l v1 v2 v3 v4 v w) (hW : w.setCells N 0 (scells h v1 v2 v3 v4 v) = W) :
    W.rangeAt N 0 (scells h v1 v2 v3 v4 v) ∧ HV W N h v1 v2 v3 v4 ∧ SV W N l v ∧ Dw B a len cap b W ∧ Wr b w0 W := by
  have hB : Below N w W := by rw [← hW]; exact below_sets _ _ (Below.refl _ _) (Nat.le_refl _)
  have hs : w.heap.size ≤ W.heap.size := by rw [← hW, size_sets]; exact Nat.le_refl _
  have hk : Keeps (N + 1) w W := by rw [← hW]; exact Keeps.sets _ (by omega) _ _
  refine ⟨by rw [← hW]; exact World.rangeAt_setCells_same _ _ _ _ s.thN, s.ex.hv.same (Nat.le_succ _) hk, s.sx.sv.same (Nat.le_succ _) hk, ⟨s.dw.hlen, s.dw.hB, s.dw.hC.later (hB.mono (by have := s.dw.hB; have := s.hb; omega)), s.dw.cur.later (hB.block b s.hb)⟩, ?_⟩
  exact ⟨hB.os.trans s.wr.os, hB.tape.trans s.wr.tape, hB.output.trans s.wr.output, Nat.le_trans s.wr.size hs, fun k hk hne => (hB.block k (by have := s.hN; omega)).trans (s.wr.block k hk hne)⟩
end
def zeroX : X := ⟨⟨0, 0, ⟨#[]⟩⟩, .nil⟩
def zeroS (k : Int) : SH := ⟨k, ⟨#[]⟩, zeroX, zeroX, zeroX, zeroX⟩
abbrev nilS : Value := .slice Option.none 0 0
def SRx (g : Nat) (w : World) (lo : Nat) : SF → List Value → Prop
  | .nil, xs => xs = []
  | .node _ _ h l r, xs => ∃ v1 v2 v3 v4 v ys, xs = scells h v1 v2 v3 v4 v ++ ys ∧ HVx g w lo h v1 v2 v3 v4 ∧ SVx g w lo l v ∧ SRx g w lo r ys
theorem SRx.row {g lo : Nat} {w : World} : ∀ {F : SF} {xs : List Value}, SRx g w lo F xs → SRow w lo F xs
  | .nil, _, h => h
  | .node _ _ _ _ r, _, ⟨v1, v2, v3, v4, v, ys, e, h1, h2, h⟩ => ⟨v1, v2, v3, v4, v, ys, e, h1.e1.ev, h1.e2.ev, h1.e3.ev, h1.e4.ev, h2.sv, SRx.row h⟩
theorem SRx.step {g g' lo : Nat} {w w' : World} (hs : ∀ (F : EF) (v : Value), EVx g w lo F v → EVx g' w' lo F v) (hs2 : ∀ (F : SF) (v : Value), SVx g w lo F v → SVx g' w' lo F v) : ∀ {F : SF} {xs : List Value}, SRx g w lo F xs → SRx g' w' lo F xs
  | .nil, _, h => h
  | .node _ _ _ l r, _, ⟨v1, v2, v3, v4, v, ys, e, h1, h2, h⟩ => ⟨v1, v2, v3, v4, v, ys, e, h1.map hs, hs2 l v h2, SRx.step hs hs2 h⟩
theorem SRx.app {g lo : Nat} {w : World} : ∀ {P R : SF} {xs ys : List Value}, SRx g w lo P xs → SRx g w lo R ys → SRx g w lo (sapp P R) (xs ++ ys)
  | .nil, _, _, _, h, k => by rw [show _ = [] from h]; exact k
  | .node _ _ _ _ r, _, _, _, ⟨v1, v2, v3, v4, v, zs, e, h1, h2, h⟩, k => ⟨v1, v2, v3, v4, v, _, by rw [e, List.append_assoc], h1, h2, SRx.app h k⟩
theorem own_wr {w w' : World} {b B sz n : Nat} {e : TypeId} {v : Value} {xs : List Value} (h : w.ownsRow B e sz v n xs) (hw : Wr b w w') (hb : b < B) : w'.ownsRow B e sz v n xs := by
  refine ⟨h.1, ?_⟩
  rcases h.2 with h0 | ⟨g, cap, cur, h1, h2, h3, h4⟩
  · exact .inl h0
  · exact .inr ⟨g, cap, cur, h1, h2, (hw.block g (lt_heap h3) (by omega)).trans h3, h4⟩
theorem ownShape' {w : World} {B sz n : Nat} {e : TypeId} {v : Value} {xs : List Value} (h : w.ownsRow B e sz v n xs) : ∃ a c, v = .slice a n c := by
  rcases h.2 with ⟨h1, h0⟩ | ⟨g, cap, cur, h1, _⟩
  · exact ⟨_, _, by rw [h0]; exact h1⟩
  · exact ⟨_, _, h1⟩
def SO (w : World) (lo : Nat) (F : SF) (v : Value) : Prop := ∃ xs, w.ownsRow lo 98 19 v (slen F) xs ∧ SRx (gOf v) w lo F xs
theorem SO.nil (w : World) (lo : Nat) : SO w lo .nil nilS := ⟨[], ⟨rfl, .inl ⟨rfl, rfl⟩⟩, rfl⟩
theorem SO.sv {w : World} {lo : Nat} {F : SF} {v : Value} (h : SO w lo F v) : SV w lo F v := by
  obtain ⟨xs, own, row⟩ := h
  have hrow := row.row
  rcases own.2 with ⟨h0, hn⟩ | ⟨g, c, cur, h1, h2, h3, h4⟩
  · have hP : F = .nil := by cases F with | nil => rfl | node => simp [slen] at hn
    subst hP; rw [h0]; exact SV.nil _ _ _ _
  · subst h1
    refine ⟨g, 0, _, c, rfl, .inl rfl, h2, SRow.laid 0 hrow fun j u hj => ?_⟩
    have hc := own.cells (g := g) rfl j u hj
    rw [Go.WideShapes.add_plain] at hc
    exact hc
theorem SO.gOf {w : World} {lo : Nat} {F : SF} {v : Value} (h : SO w lo F v) : gOf v = 0 ∨ lo ≤ gOf v := by
  obtain ⟨xs, own, row⟩ := h
  rcases own.2 with ⟨h0, hn⟩ | ⟨g, c, cur, h1, h2, h3, h4⟩
  · left; rw [h0]; rfl
  · right; rw [h1]; exact h2
theorem EV.mono {w : World} {lo lo' : Nat} {F : EF} {v : Value} (h : EV w lo F v) (hl : lo' ≤ lo) : EV w lo' F v := h.same hl fun _ _ _ hc => hc
theorem SV.mono {w : World} {lo lo' : Nat} {F : SF} {v : Value} (h : SV w lo F v) (hl : lo' ≤ lo) : SV w lo' F v := h.same hl fun _ _ _ hc => hc
theorem EVx.low {g lo lo' : Nat} {w W : World} {F : EF} {v : Value} (h : EVx g w lo F v) (hl : lo' ≤ lo) (hk : ∀ (a : Addr) u, lo ≤ a.block → w.cell? a = some u → W.cell? a = some u) : EVx g W lo' F v := fun V hV => (h V fun a u h1 h2 hc => hV a u (by omega) h2 (hk a u h1 hc)).mono hl
theorem SVx.low {g lo lo' : Nat} {w W : World} {F : SF} {v : Value} (h : SVx g w lo F v) (hl : lo' ≤ lo) (hk : ∀ (a : Addr) u, lo ≤ a.block → w.cell? a = some u → W.cell? a = some u) : SVx g W lo' F v := fun V hV => (h V fun a u h1 h2 hc => hV a u (by omega) h2 (hk a u h1 hc)).mono hl
theorem SRx.low {g lo lo' : Nat} {w w' : World} (hs : ∀ (F : EF) (v : Value), EVx g w lo F v → EVx g w' lo' F v) (hs2 : ∀ (F : SF) (v : Value), SVx g w lo F v → SVx g w' lo' F v) : ∀ {F : SF} {xs : List Value}, SRx g w lo F xs → SRx g w' lo' F xs
  | .nil, _, h => h
  | .node _ _ _ l r, _, ⟨v1, v2, v3, v4, v, ys, e, h1, h2, h⟩ => ⟨v1, v2, v3, v4, v, ys, e, h1.map hs, hs2 l v h2, SRx.low hs hs2 h⟩
theorem SO.low {w W : World} {lo lo' : Nat} {F : SF} {v : Value} (h : SO w lo F v) (hl : lo' ≤ lo) (hk : ∀ k, lo ≤ k → k < w.heap.size → W.heap[k]? = w.heap[k]?) : SO W lo' F v := by
  have hc : ∀ (a : Addr) u, lo ≤ a.block → w.cell? a = some u → W.cell? a = some u := fun a u h1 hc => by rw [World.cell?_of_block (hk a.block h1 (lt_of_cellA hc))]; exact hc
  obtain ⟨xs, own, row⟩ := h
  refine ⟨xs, ⟨own.1, ?_⟩, SRx.low (fun _ _ e => e.low hl hc) (fun _ _ e => e.low hl hc) row⟩
  rcases own.2 with h0 | ⟨g, c, cur, h1, h2, h3, h4⟩
  · exact .inl h0
  · exact .inr ⟨g, c, cur, h1, by omega, (hk g h2 (lt_heap h3)).trans h3, h4⟩
theorem SO.wr {w W : World} {b lo : Nat} {F : SF} {v : Value} (h : SO w lo F v) (hw : Wr b w W) (hb : b < lo) : SO W lo F v := h.low (Nat.le_refl _) fun k h1 h2 => hw.block k h2 (by omega)
theorem EVx.zero {w : World} {lo : Nat} {F : EF} {v : Value} (h : EV w lo F v) (h0 : 0 < lo) : EVx 0 w lo F v := fun W hW => h.same (Nat.le_refl _) fun a u h1 hc => hW a u h1 (by omega) hc
theorem HVx.zero {w : World} {lo : Nat} {h : SH} {v1 v2 v3 v4 : Value} (x : HV w lo h v1 v2 v3 v4) (h0 : 0 < lo) : HVx 0 w lo h v1 v2 v3 v4 := ⟨EVx.zero x.e1 h0, EVx.zero x.e2 h0, EVx.zero x.e3 h0, EVx.zero x.e4 h0⟩
theorem EVx.end {g n N b : Nat} {w w' W : World} {F : EF} {v : Value} (h : EVx n w (N + 1) F v) (hw : Wr b w w') (hb : b < N) (hg : g = 0 ∨ w.heap.size ≤ g) (hk : ∀ (a : Addr) u, N + 1 ≤ a.block → a.block ≠ n → w'.cell? a = some u → W.cell? a = some u) : EVx g W N F v := fun V hV =>
  (h V fun a u h1 h2 hc => hV a u (by omega) (by have := lt_of_cellA hc; omega) (hk a u h1 h2 (hw.keeps a u (by omega) hc))).mono (Nat.le_succ _)
theorem HVx.end {g n N b : Nat} {w w' W : World} {h : SH} {v1 v2 v3 v4 : Value} (x : HVx n w (N + 1) h v1 v2 v3 v4) (hw : Wr b w w') (hb : b < N) (hg : g = 0 ∨ w.heap.size ≤ g) (hk : ∀ (a : Addr) u, N + 1 ≤ a.block → a.block ≠ n → w'.cell? a = some u → W.cell? a = some u) : HVx g W N h v1 v2 v3 v4 := x.map fun _ _ e => EVx.end e hw hb hg hk
theorem keep2 {w W : World} {n N o : Nat} {u : Value} {cs : List Value} (hW : (w.setCell ⟨n, o, Option.none⟩ u).setCells N 0 cs = W) : ∀ (a : Addr) z, N + 1 ≤ a.block → a.block ≠ n → w.cell? a = some z → W.cell? a = some z := fun a z h1 h2 hc => by
  rw [← hW, World.cell?_setCells_out N cs 0 _ a (fun e _ => absurd e (by omega)), show w.setCell ⟨n, o, Option.none⟩ u = w.setCells n o [u] from rfl, World.cell?_setCells_out n [u] o w a (fun e _ => absurd e h2)]
  exact hc
theorem heap2 {w W : World} {n N o S : Nat} {u : Value} {cs : List Value} (hW : (w.setCell ⟨n, o, Option.none⟩ u).setCells N 0 cs = W) (hn : n < S) (hN : N < S) : ∀ k, S ≤ k → k < w.heap.size → W.heap[k]? = w.heap[k]? := fun k h1 h2 => by
  rw [← hW, World.heap_setCells_other _ N 0 cs (by rw [show w.setCell ⟨n, o, Option.none⟩ u = w.setCells n o [u] from rfl, size_sets]; exact h2) (by omega), show w.setCell ⟨n, o, Option.none⟩ u = w.setCells n o [u] from rfl, World.heap_setCells_other w n o [u] h2 (by omega)]
def DrawnS (B : Nat) (a : Option Addr) (len cap b lim : Nat) (w : World) (e : Ending) (w' : World) : Prop :=
  ∃ (h : SH) (l : SF) (v1 v2 v3 v4 v : Value), e = .returned (.agg (scells h v1 v2 v3 v4 v).toArray) ∧ HV w' w.heap.size h v1 v2 v3 v4 ∧ SV w' w.heap.size l v ∧ hsize h + ssize l ≤ lim ∧ Dw B a len cap b w' ∧ Wr b w w' ∧ HVx (gOf v) w' w.heap.size h v1 v2 v3 v4 ∧ SO w' w.heap.size l v
def DrawnR (B : Nat) (a : Option Addr) (len cap b lim : Nat) (w : World) (e : Ending) (w' : World) : Prop :=
  ∃ (F : SF) (v : Value), e = .returned v ∧ SV w' w.heap.size F v ∧ ssize F ≤ lim ∧ Dw B a len cap b w' ∧ Wr b w w' ∧ SO w' w.heap.size F v
theorem okK4 : ∀ z ∈ ([1, 2, 2, 3, 3, 4] : List Int), 1 ≤ z ∧ z ≤ 4 := by decide
theorem okNames3 : ∀ z ∈ ([⟨#[120]⟩, ⟨#[121]⟩, ⟨#[115]⟩] : List ByteArray), z.size ≤ 1 := by decide
theorem okLoop3 : ∀ z ∈ ([⟨#[105]⟩, ⟨#[106]⟩, ⟨#[107]⟩] : List ByteArray), z.size ≤ 1 := by decide
theorem hs_s (h : SH) (s : ByteArray) (hs : s.size ≤ 10) (h0 : h.s.size = 0) : hsize { h with s := s } ≤ hsize h + 10 := by simp only [hsize]; omega
theorem hs_1 (h : SH) (x : X) : hsize { h with x1 := x } ≤ hsize h + xsize x := by simp only [hsize]; omega
theorem hs_2 (h : SH) (x : X) : hsize { h with x2 := x } ≤ hsize h + xsize x := by simp only [hsize]; omega
theorem hs_3 (h : SH) (x : X) : hsize { h with x3 := x } ≤ hsize h + xsize x := by simp only [hsize]; omega
theorem hs_4 (h : SH) (x : X) : hsize { h with x4 := x } ≤ hsize h + xsize x := by simp only [hsize]; omega
theorem hs_zero (k : Int) : hsize (zeroS k) = 0 := by rfl
theorem lim0 : limD 0 = 4 := rfl
theorem lim1 : limD 1 = 12 := rfl
theorem lim2 : limD 2 = 28 := rfl
theorem lt_there19 {w : World} {n : Nat} (h : w.there n 0 19) : n + 1 ≤ w.heap.size := by
  obtain ⟨u, hu⟩ := Option.isSome_iff_exists.1 (h 0 (by omega)).1
  exact lt_of_cellA hu
theorem oneZ (k : Int) : (scells (zeroS k) nilS nilS nilS nilS nilS).toArray.all (·.oneCell') = true := oneS (zeroS k) nilS nilS nilS nilS nilS rfl rfl rfl rfl rfl
theorem VarS.start {B : Nat} {a : Option Addr} {len cap b : Nat} {w0 w1 W : World} {N : Nat} {k : Int} {t : TypeId} (hN : w0.heap.size = N) (hb : b < N) (d : Dw B a len cap b w1) (hw : Wr b w0 w1) (hth : w1.there N 0 19) (hW : (w1.alloc (.cells zero19 t)).setCells w1.heap.size 0 (scells (zeroS k) nilS nilS nilS nilS nilS) = W) :
    VarS B a len cap b w0 N w1.heap.size (zeroS k) .nil nilS nilS nilS nilS nilS W := by
  have hn := newblkS (zeroS k) nilS nilS nilS nilS nilS hW
  refine ⟨hn.1, by rw [← hW]; exact World.there_setCells (newthere w1 t) _ _ _, ⟨EVx.nil _ _ _ _ _, EVx.nil _ _ _ _ _, EVx.nil _ _ _ _ _, EVx.nil _ _ _ _ _⟩, SVx.nil _ _ _ _ _, d.later hn.2, hw.trans (.of_below hn.2), there_later hth hn.2, hN, by have := lt_there19 hth; omega, hb⟩
theorem l3DrawStmt_of (d : Nat) (hd : d ≤ 20) (B : Nat) (a : Option Addr) (len cap b lb : Nat)
    (ih : 1 ≤ d → ∀ w, Dw B a len cap b w → Calls Tryz.prog 58 #[.pointer (some ⟨b, 0, none⟩), .int .i64 ((d : Int) - 1), .int .i64 2] w (DrawnR B a len cap b lb w))
    (w : World) (hdw : Dw B a len cap b w) : Calls Tryz.prog 112 #[.pointer (some ⟨b, 0, none⟩), .int .i64 (d : Int)] w (DrawnS B a len cap b (100 + lb) w) := by
  have Hih := hid ih
  have HD := hid hdw
  have hbN := hdw.cur.lt
  have hdI : (d : Int) ≤ 20 := by omega
  clear ih hdw
  go_enter Tryz.func112, Tryz.ntmps112
  go_wp2_with fail
  have b0 := (aB w (.cells zero19 98)).alloc (by simp) (.cells (([1, 2, 2, 3, 3, 4] : List Int).map (Value.int .i64)).toArray 3)
  have th0 : ((w.alloc (.cells zero19 98)).alloc (.cells (([1, 2, 2, 3, 3, 4] : List Int).map (Value.int .i64)).toArray 3)).there w.heap.size 0 19 := there_later (newthere w 98) (aB _ _)
  refine (l1Int_is B a len cap b (w.heap.size + 1) 6 6 (fun z => 1 ≤ z ∧ z ≤ 4) _ (HD.out.later b0) (by omega) (by omega) (by omega) (fun j hj => ints_cell _ _ _ okK4 _ (by simp) j hj)).mono ?_
  rintro e w1 ⟨k, rfl, ⟨hk1, hk4⟩, d1, wr1⟩
  have D1 := hid (And.intro d1 (And.intro ((Wr.of_below b0).trans wr1) (there_wr th0 wr1 (by omega))))
  clear d1 wr1 b0 th0 HD
  by_cases h0 : d = 0
  · have hd0 : (d : Int) ≤ 0 := by omega
    obtain rfl | rfl | rfl | rfl : k = 1 ∨ k = 2 ∨ k = 3 ∨ k = 4 := by omega
    · clear h0 hk1 hk4
      go_wp2_with (refine sA rfl 98 _ _ rfl _ _ _ rfl rfl ?htp sizeIS ?hop ?_; exact (newthere w1 _); exact (oneZ 1); intro W hW; have V := hid (VarS.start (k := 1) rfl hbN D1.out.1 D1.out.2.1 D1.out.2.2 hW); clear hW)
      obtain ⟨n, hn⟩ : ∃ n, w1.heap.size = n := ⟨_, rfl⟩
      rw [hn] at V ⊢
      clear hn D1
      obtain ⟨h0, hz0, hs0, V0⟩ : ∃ h0 : SH, hsize h0 ≤ 0 ∧ h0.s.size = 0 ∧ Hid (VarS B a len cap b w w.heap.size n h0 .nil nilS nilS nilS nilS nilS W) := ⟨zeroS 1, Nat.le_of_eq (hs_zero _), rfl, V⟩
      clear V
      have b1 := aB W (.cells (([⟨#[120]⟩, ⟨#[121]⟩, ⟨#[115]⟩] : List ByteArray).map Value.string).toArray 9)
      have U1 := hid (V0.out.later b1)
      go_wp2_with fail
      refine (l1Str_is B a len cap b W.heap.size 3 3 (fun z => z.size ≤ 1) _ U1.out.dw (by omega) (by omega) (by have := V0.out.lt; have := V0.out.hn; have := V0.out.hb; omega) (fun j hj => strs_cell _ _ _ okNames3 _ rfl j hj)).mono ?_
      rintro e w1 ⟨z1, rfl, hq1, d1, wr1⟩
      have T1 := hid (U1.out.step wr1 d1)
      obtain ⟨_, ⟨c1, f1⟩, _⟩ := T1.out.free
      obtain ⟨h1, hz1, V1⟩ : ∃ h1 : SH, hsize h1 ≤ hsize h0 + 10 ∧ Hid (VarS B a len cap b w w.heap.size n h1 .nil nilS nilS nilS nilS nilS (w1.setCell ⟨n, 1, Option.none⟩ (.string z1))) := ⟨_, hs_s h0 z1 (by omega) hs0, hid (T1.out.setS z1)⟩
      clear b1 U1 T1 d1 wr1 V0 hq1
      go_wp2_with fail
      refine (l3Draw_all B a len cap b 2 (by omega) _ V1.out.dw).mono ?_
      rintro e w2 ⟨x2, u2, rfl, g2, s2, d2, wr2⟩
      have T2 := hid (V1.out.step wr2 d2)
      have G2 := hid (V1.out.evx g2)
      have i2 := g2.isOne
      clear V1 d2 wr2 g2
      go_wp2_with (first | (refine sA rfl 43 _ _ rfl _ _ _ rfl rfl ?ht1p2 sizeIE2 ?ho1p2 ?_; exact (T2.out.part 6 (by omega)); exact (oneX x2 u2 i2); intro W2 hW; have V2 : Hid (VarS B a len cap b w w.heap.size n { h1 with x2 := x2 } .nil nilS u2 nilS nilS nilS W2) := hid (by rw [← hW]; exact T2.out.set2 G2.out); clear hW) | (refine wpList_load_mid rfl 98 _ rfl n 0 rfl _ _ V2.out.rg Tryz.underlying98 rfl sizeIS ?_) | (refine sA rfl 98 _ _ rfl _ _ _ rfl rfl ?hte1p sizeIS ?hoe1p ?_; exact V2.out.thN; exact (oneS { h1 with x2 := x2 } nilS u2 nilS nilS nilS V2.out.ex.e1.ev.isOne V2.out.ex.e2.ev.isOne V2.out.ex.e3.ev.isOne V2.out.ex.e4.ev.isOne V2.out.sx.sv.isOne); intro WE hW; have HC := hid (V2.out.close hW); clear hW))
      have hz2 := hs_2 h1 x2
      obtain ⟨h2, hh2⟩ : ∃ h2 : SH, h2 = { h1 with x2 := x2 } := ⟨_, rfl⟩
      rw [← hh2] at hz2
      rw [← hh2] at HC
      obtain ⟨rg, q1, q2, q3, q4⟩ := HC.out
      have hlv := run_loadVar_mid WE w.heap.size 0 _ _ _ rg Tryz.underlying98 rfl sizeIS
      refine bodyPost_ret (v := .agg (scells h2 nilS u2 nilS nilS nilS).toArray) ?_ rfl ⟨h2, .nil, nilS, u2, nilS, nilS, nilS, rfl, q1, q2, (by have := s2; have l0 := lim0; have l1 := lim1; have l2 := lim2; (try simp only [ssize]); omega), q3, q4, HVx.zero q1 (by omega), SO.nil _ _⟩
      simp [results, Tryz.results112, asAddr, hlv, Act.put]
      try rfl
    · clear h0 hk1 hk4
      go_wp2_with (refine sA rfl 98 _ _ rfl _ _ _ rfl rfl ?htq sizeIS ?hoq ?_; exact (newthere w1 _); exact (oneZ 2); intro W hW; have V := hid (VarS.start (k := 2) rfl hbN D1.out.1 D1.out.2.1 D1.out.2.2 hW); clear hW)
      obtain ⟨n, hn⟩ : ∃ n, w1.heap.size = n := ⟨_, rfl⟩
      rw [hn] at V ⊢
      clear hn D1
      obtain ⟨h0, hz0, hs0, V0⟩ : ∃ h0 : SH, hsize h0 ≤ 0 ∧ h0.s.size = 0 ∧ Hid (VarS B a len cap b w w.heap.size n h0 .nil nilS nilS nilS nilS nilS W) := ⟨zeroS 2, Nat.le_of_eq (hs_zero _), rfl, V⟩
      clear V
      have b1 := aB W (.cells (([⟨#[97]⟩, ⟨#[98]⟩] : List ByteArray).map Value.string).toArray 9)
      have U1 := hid (V0.out.later b1)
      go_wp2_with fail
      refine (l1Str_is B a len cap b W.heap.size 2 2 (fun z => z.size ≤ 1) _ U1.out.dw (by omega) (by omega) (by have := V0.out.lt; have := V0.out.hn; have := V0.out.hb; omega) (fun j hj => strs_cell _ _ _ okNames2 _ rfl j hj)).mono ?_
      rintro e w1 ⟨z1, rfl, hq1, d1, wr1⟩
      have T1 := hid (U1.out.step wr1 d1)
      obtain ⟨_, ⟨c1, f1⟩, _⟩ := T1.out.free
      obtain ⟨h1, hz1, V1⟩ : ∃ h1 : SH, hsize h1 ≤ hsize h0 + 10 ∧ Hid (VarS B a len cap b w w.heap.size n h1 .nil nilS nilS nilS nilS nilS (w1.setCell ⟨n, 1, Option.none⟩ (.string z1))) := ⟨_, hs_s h0 z1 (by omega) hs0, hid (T1.out.setS z1)⟩
      clear b1 U1 T1 d1 wr1 V0 hq1
      go_wp2_with fail
      refine (l3Draw_all B a len cap b 1 (by omega) _ V1.out.dw).mono ?_
      rintro e w2 ⟨x2, u2, rfl, g2, s2, d2, wr2⟩
      have T2 := hid (V1.out.step wr2 d2)
      have G2 := hid (V1.out.evx g2)
      have i2 := g2.isOne
      clear V1 d2 wr2 g2
      go_wp2_with (refine sA rfl 43 _ _ rfl _ _ _ rfl rfl ?ht2q2 sizeIE2 ?ho2q2 ?_; exact (T2.out.part 2 (by omega)); exact (oneX x2 u2 i2); intro W2 hW; have V2 : Hid (VarS B a len cap b w w.heap.size n { h1 with x1 := x2 } .nil u2 nilS nilS nilS nilS W2) := hid (by rw [← hW]; exact T2.out.set1 G2.out); clear hW)
      obtain ⟨h2, hz2, V2⟩ : ∃ h2 : SH, hsize h2 ≤ hsize h1 + xsize x2 ∧ Hid (VarS B a len cap b w w.heap.size n h2 .nil u2 nilS nilS nilS nilS W2) := ⟨_, hs_1 h1 x2, V2⟩
      clear T2 G2 i2
      go_wp2_with fail
      refine (l3Draw_all B a len cap b 2 (by omega) _ V2.out.dw).mono ?_
      rintro e w3 ⟨x3, u3, rfl, g3, s3, d3, wr3⟩
      have T3 := hid (V2.out.step wr3 d3)
      have G3 := hid (V2.out.evx g3)
      have i3 := g3.isOne
      clear V2 d3 wr3 g3
      go_wp2_with (first | (refine sA rfl 43 _ _ rfl _ _ _ rfl rfl ?ht2q3 sizeIE2 ?ho2q3 ?_; exact (T3.out.part 6 (by omega)); exact (oneX x3 u3 i3); intro W3 hW; have V3 : Hid (VarS B a len cap b w w.heap.size n { h2 with x2 := x3 } .nil u2 u3 nilS nilS nilS W3) := hid (by rw [← hW]; exact T3.out.set2 G3.out); clear hW) | (refine wpList_load_mid rfl 98 _ rfl n 0 rfl _ _ V3.out.rg Tryz.underlying98 rfl sizeIS ?_) | (refine sA rfl 98 _ _ rfl _ _ _ rfl rfl ?hte2q sizeIS ?hoe2q ?_; exact V3.out.thN; exact (oneS { h2 with x2 := x3 } u2 u3 nilS nilS nilS V3.out.ex.e1.ev.isOne V3.out.ex.e2.ev.isOne V3.out.ex.e3.ev.isOne V3.out.ex.e4.ev.isOne V3.out.sx.sv.isOne); intro WE hW; have HC := hid (V3.out.close hW); clear hW))
      have hz3 := hs_2 h2 x3
      obtain ⟨h3, hh3⟩ : ∃ h3 : SH, h3 = { h2 with x2 := x3 } := ⟨_, rfl⟩
      rw [← hh3] at hz3
      rw [← hh3] at HC
      obtain ⟨rg, q1, q2, q3, q4⟩ := HC.out
      have hlv := run_loadVar_mid WE w.heap.size 0 _ _ _ rg Tryz.underlying98 rfl sizeIS
      refine bodyPost_ret (v := .agg (scells h3 u2 u3 nilS nilS nilS).toArray) ?_ rfl ⟨h3, .nil, u2, u3, nilS, nilS, nilS, rfl, q1, q2, (by have := s2; have := s3; have l0 := lim0; have l1 := lim1; have l2 := lim2; (try simp only [ssize]); omega), q3, q4, HVx.zero q1 (by omega), SO.nil _ _⟩
      simp [results, Tryz.results112, asAddr, hlv, Act.put]
      try rfl
    · clear h0 hk1 hk4
      go_wp2_with (refine sA rfl 98 _ _ rfl _ _ _ rfl rfl ?htr sizeIS ?hor ?_; exact (newthere w1 _); exact (oneZ 2); intro W hW; have V := hid (VarS.start (k := 2) rfl hbN D1.out.1 D1.out.2.1 D1.out.2.2 hW); clear hW)
      obtain ⟨n, hn⟩ : ∃ n, w1.heap.size = n := ⟨_, rfl⟩
      rw [hn] at V ⊢
      clear hn D1
      obtain ⟨h0, hz0, hs0, V0⟩ : ∃ h0 : SH, hsize h0 ≤ 0 ∧ h0.s.size = 0 ∧ Hid (VarS B a len cap b w w.heap.size n h0 .nil nilS nilS nilS nilS nilS W) := ⟨zeroS 2, Nat.le_of_eq (hs_zero _), rfl, V⟩
      clear V
      have b1 := aB W (.cells (([⟨#[97]⟩, ⟨#[98]⟩] : List ByteArray).map Value.string).toArray 9)
      have U1 := hid (V0.out.later b1)
      go_wp2_with fail
      refine (l1Str_is B a len cap b W.heap.size 2 2 (fun z => z.size ≤ 1) _ U1.out.dw (by omega) (by omega) (by have := V0.out.lt; have := V0.out.hn; have := V0.out.hb; omega) (fun j hj => strs_cell _ _ _ okNames2 _ rfl j hj)).mono ?_
      rintro e w1 ⟨z1, rfl, hq1, d1, wr1⟩
      have T1 := hid (U1.out.step wr1 d1)
      obtain ⟨_, ⟨c1, f1⟩, _⟩ := T1.out.free
      obtain ⟨h1, hz1, V1⟩ : ∃ h1 : SH, hsize h1 ≤ hsize h0 + 10 ∧ Hid (VarS B a len cap b w w.heap.size n h1 .nil nilS nilS nilS nilS nilS (w1.setCell ⟨n, 1, Option.none⟩ (.string z1))) := ⟨_, hs_s h0 z1 (by omega) hs0, hid (T1.out.setS z1)⟩
      clear b1 U1 T1 d1 wr1 V0 hq1
      go_wp2_with fail
      refine (l3Draw_all B a len cap b 1 (by omega) _ V1.out.dw).mono ?_
      rintro e w2 ⟨x2, u2, rfl, g2, s2, d2, wr2⟩
      have T2 := hid (V1.out.step wr2 d2)
      have G2 := hid (V1.out.evx g2)
      have i2 := g2.isOne
      clear V1 d2 wr2 g2
      go_wp2_with (refine sA rfl 43 _ _ rfl _ _ _ rfl rfl ?ht2r2 sizeIE2 ?ho2r2 ?_; exact (T2.out.part 2 (by omega)); exact (oneX x2 u2 i2); intro W2 hW; have V2 : Hid (VarS B a len cap b w w.heap.size n { h1 with x1 := x2 } .nil u2 nilS nilS nilS nilS W2) := hid (by rw [← hW]; exact T2.out.set1 G2.out); clear hW)
      obtain ⟨h2, hz2, V2⟩ : ∃ h2 : SH, hsize h2 ≤ hsize h1 + xsize x2 ∧ Hid (VarS B a len cap b w w.heap.size n h2 .nil u2 nilS nilS nilS nilS W2) := ⟨_, hs_1 h1 x2, V2⟩
      clear T2 G2 i2
      go_wp2_with fail
      refine (l3Draw_all B a len cap b 2 (by omega) _ V2.out.dw).mono ?_
      rintro e w3 ⟨x3, u3, rfl, g3, s3, d3, wr3⟩
      have T3 := hid (V2.out.step wr3 d3)
      have G3 := hid (V2.out.evx g3)
      have i3 := g3.isOne
      clear V2 d3 wr3 g3
      go_wp2_with (first | (refine sA rfl 43 _ _ rfl _ _ _ rfl rfl ?ht2r3 sizeIE2 ?ho2r3 ?_; exact (T3.out.part 6 (by omega)); exact (oneX x3 u3 i3); intro W3 hW; have V3 : Hid (VarS B a len cap b w w.heap.size n { h2 with x2 := x3 } .nil u2 u3 nilS nilS nilS W3) := hid (by rw [← hW]; exact T3.out.set2 G3.out); clear hW) | (refine wpList_load_mid rfl 98 _ rfl n 0 rfl _ _ V3.out.rg Tryz.underlying98 rfl sizeIS ?_) | (refine sA rfl 98 _ _ rfl _ _ _ rfl rfl ?hte2r sizeIS ?hoe2r ?_; exact V3.out.thN; exact (oneS { h2 with x2 := x3 } u2 u3 nilS nilS nilS V3.out.ex.e1.ev.isOne V3.out.ex.e2.ev.isOne V3.out.ex.e3.ev.isOne V3.out.ex.e4.ev.isOne V3.out.sx.sv.isOne); intro WE hW; have HC := hid (V3.out.close hW); clear hW))
      have hz3 := hs_2 h2 x3
      obtain ⟨h3, hh3⟩ : ∃ h3 : SH, h3 = { h2 with x2 := x3 } := ⟨_, rfl⟩
      rw [← hh3] at hz3
      rw [← hh3] at HC
      obtain ⟨rg, q1, q2, q3, q4⟩ := HC.out
      have hlv := run_loadVar_mid WE w.heap.size 0 _ _ _ rg Tryz.underlying98 rfl sizeIS
      refine bodyPost_ret (v := .agg (scells h3 u2 u3 nilS nilS nilS).toArray) ?_ rfl ⟨h3, .nil, u2, u3, nilS, nilS, nilS, rfl, q1, q2, (by have := s2; have := s3; have l0 := lim0; have l1 := lim1; have l2 := lim2; (try simp only [ssize]); omega), q3, q4, HVx.zero q1 (by omega), SO.nil _ _⟩
      simp [results, Tryz.results112, asAddr, hlv, Act.put]
      try rfl
    · clear h0 hk1 hk4
      go_wp2_with (refine sA rfl 98 _ _ rfl _ _ _ rfl rfl ?hts sizeIS ?hos ?_; exact (newthere w1 _); exact (oneZ 4); intro W hW; have V := hid (VarS.start (k := 4) rfl hbN D1.out.1 D1.out.2.1 D1.out.2.2 hW); clear hW)
      obtain ⟨n, hn⟩ : ∃ n, w1.heap.size = n := ⟨_, rfl⟩
      rw [hn] at V ⊢
      clear hn D1
      obtain ⟨h0, hz0, hs0, V0⟩ : ∃ h0 : SH, hsize h0 ≤ 0 ∧ h0.s.size = 0 ∧ Hid (VarS B a len cap b w w.heap.size n h0 .nil nilS nilS nilS nilS nilS W) := ⟨zeroS 4, Nat.le_of_eq (hs_zero _), rfl, V⟩
      clear V
      go_wp2_with fail
      refine (l3Draw_all B a len cap b 2 (by omega) _ V0.out.dw).mono ?_
      rintro e w1 ⟨x1, u1, rfl, g1, s1, d1, wr1⟩
      have T1 := hid (V0.out.step wr1 d1)
      have G1 := hid (V0.out.evx g1)
      have i1 := g1.isOne
      clear V0 d1 wr1 g1
      go_wp2_with (first | (refine sA rfl 43 _ _ rfl _ _ _ rfl rfl ?ht4s1 sizeIE2 ?ho4s1 ?_; exact (T1.out.part 6 (by omega)); exact (oneX x1 u1 i1); intro W1 hW; have V1 : Hid (VarS B a len cap b w w.heap.size n { h0 with x2 := x1 } .nil nilS u1 nilS nilS nilS W1) := hid (by rw [← hW]; exact T1.out.set2 G1.out); clear hW) | (refine wpList_load_mid rfl 98 _ rfl n 0 rfl _ _ V1.out.rg Tryz.underlying98 rfl sizeIS ?_) | (refine sA rfl 98 _ _ rfl _ _ _ rfl rfl ?hte4s sizeIS ?hoe4s ?_; exact V1.out.thN; exact (oneS { h0 with x2 := x1 } nilS u1 nilS nilS nilS V1.out.ex.e1.ev.isOne V1.out.ex.e2.ev.isOne V1.out.ex.e3.ev.isOne V1.out.ex.e4.ev.isOne V1.out.sx.sv.isOne); intro WE hW; have HC := hid (V1.out.close hW); clear hW))
      have hz1 := hs_2 h0 x1
      obtain ⟨h1, hh1⟩ : ∃ h1 : SH, h1 = { h0 with x2 := x1 } := ⟨_, rfl⟩
      rw [← hh1] at hz1
      rw [← hh1] at HC
      obtain ⟨rg, q1, q2, q3, q4⟩ := HC.out
      have hlv := run_loadVar_mid WE w.heap.size 0 _ _ _ rg Tryz.underlying98 rfl sizeIS
      refine bodyPost_ret (v := .agg (scells h1 nilS u1 nilS nilS nilS).toArray) ?_ rfl ⟨h1, .nil, nilS, u1, nilS, nilS, nilS, rfl, q1, q2, (by have := s1; have l0 := lim0; have l1 := lim1; have l2 := lim2; (try simp only [ssize]); omega), q3, q4, HVx.zero q1 (by omega), SO.nil _ _⟩
      simp [results, Tryz.results112, asAddr, hlv, Act.put]
      try rfl
  · have hd0 : ¬ (d : Int) ≤ 0 := by omega
    have Hd1 : Hid (1 ≤ d) := hid (by omega)
    have hdw : IntKind.i64.wrap ((d : Int) - 1) = (d : Int) - 1 := wrap_small _ (by omega) (by omega)
    obtain rfl | rfl | rfl | rfl : k = 1 ∨ k = 2 ∨ k = 3 ∨ k = 4 := by omega
    · clear h0 hk1 hk4
      go_wp2_with (refine sA rfl 98 _ _ rfl _ _ _ rfl rfl ?htt sizeIS ?hot ?_; exact (newthere w1 _); exact (oneZ 1); intro W hW; have V := hid (VarS.start (k := 1) rfl hbN D1.out.1 D1.out.2.1 D1.out.2.2 hW); clear hW)
      obtain ⟨n, hn⟩ : ∃ n, w1.heap.size = n := ⟨_, rfl⟩
      rw [hn] at V ⊢
      clear hn D1
      obtain ⟨h0, hz0, hs0, V0⟩ : ∃ h0 : SH, hsize h0 ≤ 0 ∧ h0.s.size = 0 ∧ Hid (VarS B a len cap b w w.heap.size n h0 .nil nilS nilS nilS nilS nilS W) := ⟨zeroS 1, Nat.le_of_eq (hs_zero _), rfl, V⟩
      clear V
      have b1 := aB W (.cells (([⟨#[120]⟩, ⟨#[121]⟩, ⟨#[115]⟩] : List ByteArray).map Value.string).toArray 9)
      have U1 := hid (V0.out.later b1)
      go_wp2_with fail
      refine (l1Str_is B a len cap b W.heap.size 3 3 (fun z => z.size ≤ 1) _ U1.out.dw (by omega) (by omega) (by have := V0.out.lt; have := V0.out.hn; have := V0.out.hb; omega) (fun j hj => strs_cell _ _ _ okNames3 _ rfl j hj)).mono ?_
      rintro e w1 ⟨z1, rfl, hq1, d1, wr1⟩
      have T1 := hid (U1.out.step wr1 d1)
      obtain ⟨_, ⟨c1, f1⟩, _⟩ := T1.out.free
      obtain ⟨h1, hz1, V1⟩ : ∃ h1 : SH, hsize h1 ≤ hsize h0 + 10 ∧ Hid (VarS B a len cap b w w.heap.size n h1 .nil nilS nilS nilS nilS nilS (w1.setCell ⟨n, 1, Option.none⟩ (.string z1))) := ⟨_, hs_s h0 z1 (by omega) hs0, hid (T1.out.setS z1)⟩
      clear b1 U1 T1 d1 wr1 V0 hq1
      go_wp2_with fail
      refine (l3Draw_all B a len cap b 2 (by omega) _ V1.out.dw).mono ?_
      rintro e w2 ⟨x2, u2, rfl, g2, s2, d2, wr2⟩
      have T2 := hid (V1.out.step wr2 d2)
      have G2 := hid (V1.out.evx g2)
      have i2 := g2.isOne
      clear V1 d2 wr2 g2
      go_wp2_with (first | (refine sA rfl 43 _ _ rfl _ _ _ rfl rfl ?ht1t2 sizeIE2 ?ho1t2 ?_; exact (T2.out.part 6 (by omega)); exact (oneX x2 u2 i2); intro W2 hW; have V2 : Hid (VarS B a len cap b w w.heap.size n { h1 with x2 := x2 } .nil nilS u2 nilS nilS nilS W2) := hid (by rw [← hW]; exact T2.out.set2 G2.out); clear hW) | (refine wpList_load_mid rfl 98 _ rfl n 0 rfl _ _ V2.out.rg Tryz.underlying98 rfl sizeIS ?_) | (refine sA rfl 98 _ _ rfl _ _ _ rfl rfl ?hte1t sizeIS ?hoe1t ?_; exact V2.out.thN; exact (oneS { h1 with x2 := x2 } nilS u2 nilS nilS nilS V2.out.ex.e1.ev.isOne V2.out.ex.e2.ev.isOne V2.out.ex.e3.ev.isOne V2.out.ex.e4.ev.isOne V2.out.sx.sv.isOne); intro WE hW; have HC := hid (V2.out.close hW); clear hW))
      have hz2 := hs_2 h1 x2
      obtain ⟨h2, hh2⟩ : ∃ h2 : SH, h2 = { h1 with x2 := x2 } := ⟨_, rfl⟩
      rw [← hh2] at hz2
      rw [← hh2] at HC
      obtain ⟨rg, q1, q2, q3, q4⟩ := HC.out
      have hlv := run_loadVar_mid WE w.heap.size 0 _ _ _ rg Tryz.underlying98 rfl sizeIS
      refine bodyPost_ret (v := .agg (scells h2 nilS u2 nilS nilS nilS).toArray) ?_ rfl ⟨h2, .nil, nilS, u2, nilS, nilS, nilS, rfl, q1, q2, (by have := s2; have l0 := lim0; have l1 := lim1; have l2 := lim2; (try simp only [ssize]); omega), q3, q4, HVx.zero q1 (by omega), SO.nil _ _⟩
      simp [results, Tryz.results112, asAddr, hlv, Act.put]
      try rfl
    · clear h0 hk1 hk4
      go_wp2_with (refine sA rfl 98 _ _ rfl _ _ _ rfl rfl ?htu sizeIS ?hou ?_; exact (newthere w1 _); exact (oneZ 2); intro W hW; have V := hid (VarS.start (k := 2) rfl hbN D1.out.1 D1.out.2.1 D1.out.2.2 hW); clear hW)
      obtain ⟨n, hn⟩ : ∃ n, w1.heap.size = n := ⟨_, rfl⟩
      rw [hn] at V ⊢
      clear hn D1
      obtain ⟨h0, hz0, hs0, V0⟩ : ∃ h0 : SH, hsize h0 ≤ 0 ∧ h0.s.size = 0 ∧ Hid (VarS B a len cap b w w.heap.size n h0 .nil nilS nilS nilS nilS nilS W) := ⟨zeroS 2, Nat.le_of_eq (hs_zero _), rfl, V⟩
      clear V
      have b1 := aB W (.cells (([⟨#[97]⟩, ⟨#[98]⟩] : List ByteArray).map Value.string).toArray 9)
      have U1 := hid (V0.out.later b1)
      go_wp2_with fail
      refine (l1Str_is B a len cap b W.heap.size 2 2 (fun z => z.size ≤ 1) _ U1.out.dw (by omega) (by omega) (by have := V0.out.lt; have := V0.out.hn; have := V0.out.hb; omega) (fun j hj => strs_cell _ _ _ okNames2 _ rfl j hj)).mono ?_
      rintro e w1 ⟨z1, rfl, hq1, d1, wr1⟩
      have T1 := hid (U1.out.step wr1 d1)
      obtain ⟨_, ⟨c1, f1⟩, _⟩ := T1.out.free
      obtain ⟨h1, hz1, V1⟩ : ∃ h1 : SH, hsize h1 ≤ hsize h0 + 10 ∧ Hid (VarS B a len cap b w w.heap.size n h1 .nil nilS nilS nilS nilS nilS (w1.setCell ⟨n, 1, Option.none⟩ (.string z1))) := ⟨_, hs_s h0 z1 (by omega) hs0, hid (T1.out.setS z1)⟩
      clear b1 U1 T1 d1 wr1 V0 hq1
      go_wp2_with fail
      refine (l3Draw_all B a len cap b 1 (by omega) _ V1.out.dw).mono ?_
      rintro e w2 ⟨x2, u2, rfl, g2, s2, d2, wr2⟩
      have T2 := hid (V1.out.step wr2 d2)
      have G2 := hid (V1.out.evx g2)
      have i2 := g2.isOne
      clear V1 d2 wr2 g2
      go_wp2_with (refine sA rfl 43 _ _ rfl _ _ _ rfl rfl ?ht2u2 sizeIE2 ?ho2u2 ?_; exact (T2.out.part 2 (by omega)); exact (oneX x2 u2 i2); intro W2 hW; have V2 : Hid (VarS B a len cap b w w.heap.size n { h1 with x1 := x2 } .nil u2 nilS nilS nilS nilS W2) := hid (by rw [← hW]; exact T2.out.set1 G2.out); clear hW)
      obtain ⟨h2, hz2, V2⟩ : ∃ h2 : SH, hsize h2 ≤ hsize h1 + xsize x2 ∧ Hid (VarS B a len cap b w w.heap.size n h2 .nil u2 nilS nilS nilS nilS W2) := ⟨_, hs_1 h1 x2, V2⟩
      clear T2 G2 i2
      go_wp2_with fail
      refine (l3Draw_all B a len cap b 2 (by omega) _ V2.out.dw).mono ?_
      rintro e w3 ⟨x3, u3, rfl, g3, s3, d3, wr3⟩
      have T3 := hid (V2.out.step wr3 d3)
      have G3 := hid (V2.out.evx g3)
      have i3 := g3.isOne
      clear V2 d3 wr3 g3
      go_wp2_with (first | (refine sA rfl 43 _ _ rfl _ _ _ rfl rfl ?ht2u3 sizeIE2 ?ho2u3 ?_; exact (T3.out.part 6 (by omega)); exact (oneX x3 u3 i3); intro W3 hW; have V3 : Hid (VarS B a len cap b w w.heap.size n { h2 with x2 := x3 } .nil u2 u3 nilS nilS nilS W3) := hid (by rw [← hW]; exact T3.out.set2 G3.out); clear hW) | (refine wpList_load_mid rfl 98 _ rfl n 0 rfl _ _ V3.out.rg Tryz.underlying98 rfl sizeIS ?_) | (refine sA rfl 98 _ _ rfl _ _ _ rfl rfl ?hte2u sizeIS ?hoe2u ?_; exact V3.out.thN; exact (oneS { h2 with x2 := x3 } u2 u3 nilS nilS nilS V3.out.ex.e1.ev.isOne V3.out.ex.e2.ev.isOne V3.out.ex.e3.ev.isOne V3.out.ex.e4.ev.isOne V3.out.sx.sv.isOne); intro WE hW; have HC := hid (V3.out.close hW); clear hW))
      have hz3 := hs_2 h2 x3
      obtain ⟨h3, hh3⟩ : ∃ h3 : SH, h3 = { h2 with x2 := x3 } := ⟨_, rfl⟩
      rw [← hh3] at hz3
      rw [← hh3] at HC
      obtain ⟨rg, q1, q2, q3, q4⟩ := HC.out
      have hlv := run_loadVar_mid WE w.heap.size 0 _ _ _ rg Tryz.underlying98 rfl sizeIS
      refine bodyPost_ret (v := .agg (scells h3 u2 u3 nilS nilS nilS).toArray) ?_ rfl ⟨h3, .nil, u2, u3, nilS, nilS, nilS, rfl, q1, q2, (by have := s2; have := s3; have l0 := lim0; have l1 := lim1; have l2 := lim2; (try simp only [ssize]); omega), q3, q4, HVx.zero q1 (by omega), SO.nil _ _⟩
      simp [results, Tryz.results112, asAddr, hlv, Act.put]
      try rfl
    · clear h0 hk1 hk4
      go_wp2_with (refine sA rfl 98 _ _ rfl _ _ _ rfl rfl ?htv sizeIS ?hov ?_; exact (newthere w1 _); exact (oneZ 3); intro W hW; have V := hid (VarS.start (k := 3) rfl hbN D1.out.1 D1.out.2.1 D1.out.2.2 hW); clear hW)
      obtain ⟨n, hn⟩ : ∃ n, w1.heap.size = n := ⟨_, rfl⟩
      rw [hn] at V ⊢
      clear hn D1
      obtain ⟨h0, hz0, hs0, V0⟩ : ∃ h0 : SH, hsize h0 ≤ 0 ∧ h0.s.size = 0 ∧ Hid (VarS B a len cap b w w.heap.size n h0 .nil nilS nilS nilS nilS nilS W) := ⟨zeroS 3, Nat.le_of_eq (hs_zero _), rfl, V⟩
      clear V
      have b1 := aB W (.cells (([⟨#[105]⟩, ⟨#[106]⟩, ⟨#[107]⟩] : List ByteArray).map Value.string).toArray 9)
      have U1 := hid (V0.out.later b1)
      have S1 : Hid (∀ j, j < 3 → ∃ z : ByteArray, (W.alloc (.cells (([⟨#[105]⟩, ⟨#[106]⟩, ⟨#[107]⟩] : List ByteArray).map Value.string).toArray 9)).cell? ⟨W.heap.size, j, none⟩ = some (.string z) ∧ z.size ≤ 1) := hid (fun j hj => strs_cell _ _ _ okLoop3 _ rfl j hj)
      have hcb1 : W.heap.size ≠ b := by have := V0.out.lt; have := V0.out.hn; have := V0.out.hb; omega
      go_wp2_with fail
      refine (l1Below_is B a len cap b 3 _ U1.out.dw (by omega)).mono ?_
      rintro e w1 ⟨y1, rfl, ⟨y0, y1⟩, d1, wr1⟩
      obtain ⟨m1, rfl⟩ := Int.eq_ofNat_of_zero_le y0
      obtain ⟨z1, hc1, hq1⟩ := S1.out m1 (by omega)
      have hcc : w1.cell? ⟨W.heap.size, m1, none⟩ = some (.string z1) := by rw [World.cell?_of_block (a := ⟨W.heap.size, m1, none⟩) (wr1.block _ (lt_of_cellA hc1) hcb1)]; exact hc1
      have T1 := hid (U1.out.step wr1 d1)
      obtain ⟨_, ⟨c1, f1⟩, _⟩ := T1.out.free
      obtain ⟨h1, hz1, V1⟩ : ∃ h1 : SH, hsize h1 ≤ hsize h0 + 10 ∧ Hid (VarS B a len cap b w w.heap.size n h1 .nil nilS nilS nilS nilS nilS (w1.setCell ⟨n, 1, Option.none⟩ (.string z1))) := ⟨_, hs_s h0 z1 (by omega) hs0, hid (T1.out.setS z1)⟩
      clear b1 U1 T1 d1 wr1 V0 hq1 S1 hc1
      go_wp2_with fail
      refine (l3Draw_all B a len cap b 0 (by omega) _ V1.out.dw).mono ?_
      rintro e w2 ⟨x2, u2, rfl, g2, s2, d2, wr2⟩
      have T2 := hid (V1.out.step wr2 d2)
      have G2 := hid (V1.out.evx g2)
      have i2 := g2.isOne
      clear V1 d2 wr2 g2
      go_wp2_with (refine sA rfl 43 _ _ rfl _ _ _ rfl rfl ?ht3v2 sizeIE2 ?ho3v2 ?_; exact (T2.out.part 10 (by omega)); exact (oneX x2 u2 i2); intro W2 hW; have V2 : Hid (VarS B a len cap b w w.heap.size n { h1 with x3 := x2 } .nil nilS nilS u2 nilS nilS W2) := hid (by rw [← hW]; exact T2.out.set3 G2.out); clear hW)
      obtain ⟨h2, hz2, V2⟩ : ∃ h2 : SH, hsize h2 ≤ hsize h1 + xsize x2 ∧ Hid (VarS B a len cap b w w.heap.size n h2 .nil nilS nilS u2 nilS nilS W2) := ⟨_, hs_3 h1 x2, V2⟩
      clear T2 G2 i2
      go_wp2_with fail
      refine (l3Draw_all B a len cap b 1 (by omega) _ V2.out.dw).mono ?_
      rintro e w3 ⟨x3, u3, rfl, g3, s3, d3, wr3⟩
      have T3 := hid (V2.out.step wr3 d3)
      have G3 := hid (V2.out.evx g3)
      have i3 := g3.isOne
      clear V2 d3 wr3 g3
      go_wp2_with (refine sA rfl 43 _ _ rfl _ _ _ rfl rfl ?ht3v3 sizeIE2 ?ho3v3 ?_; exact (T3.out.part 14 (by omega)); exact (oneX x3 u3 i3); intro W3 hW; have V3 : Hid (VarS B a len cap b w w.heap.size n { h2 with x4 := x3 } .nil nilS nilS u2 u3 nilS W3) := hid (by rw [← hW]; exact T3.out.set4 G3.out); clear hW)
      obtain ⟨h3, hz3, V3⟩ : ∃ h3 : SH, hsize h3 ≤ hsize h2 + xsize x3 ∧ Hid (VarS B a len cap b w w.heap.size n h3 .nil nilS nilS u2 u3 nilS W3) := ⟨_, hs_4 h2 x3, V3⟩
      clear T3 G3 i3
      go_wp2_with fail
      refine (Hih.out Hd1.out _ V3.out.dw).mono ?_
      rintro e w4 ⟨F4, u4, rfl, g4, s4, d4, wr4, o4⟩
      have O4 := hid (And.intro o4 (And.intro wr4 (And.intro V3.out.ex V3.out.lt)))
      have T4 := hid (V3.out.step wr4 d4)
      have G4 := hid (V3.out.svx g4)
      obtain ⟨ua, uc, rfl⟩ := g4.shape
      obtain ⟨_, _, c18, f18⟩ := T4.out.free
      have V4 : Hid (VarS B a len cap b w w.heap.size n h3 F4 nilS nilS u2 u3 (.slice ua (slen F4) uc) (w4.setCell ⟨n, 18, Option.none⟩ (.slice ua (slen F4) uc))) := hid (T4.out.setB G4.out)
      obtain ⟨h4, hz4⟩ : ∃ h4, h4 = h3 := ⟨_, rfl⟩
      rw [← hz4] at V4
      have hzz := hz4
      replace hz4 : hsize h4 ≤ hsize h3 := by rw [hz4]; exact Nat.le_refl _
      clear V3 d4 wr4 g4 T4 G4 o4
      go_wp2_with (first | (refine wpList_load_mid rfl 98 _ rfl n 0 rfl _ _ V4.out.rg Tryz.underlying98 rfl sizeIS ?_) | (refine sA rfl 98 _ _ rfl _ _ _ rfl rfl ?hte3v sizeIS ?hoe3v ?_; exact V4.out.thN; exact (oneS h4 nilS nilS u2 u3 (.slice ua (slen F4) uc) V4.out.ex.e1.ev.isOne V4.out.ex.e2.ev.isOne V4.out.ex.e3.ev.isOne V4.out.ex.e4.ev.isOne V4.out.sx.sv.isOne); intro WE hW; have HC := hid (V4.out.close hW); have HK := hid (keep2 hW); have HH := hid (heap2 hW O4.out.2.2.2 (by have := O4.out.2.2.2; have := V4.out.hn; omega)); clear hW))
      obtain ⟨rg, q1, q2, q3, q4⟩ := HC.out
      have hlv := run_loadVar_mid WE w.heap.size 0 _ _ _ rg Tryz.underlying98 rfl sizeIS
      refine bodyPost_ret (v := .agg (scells h4 nilS nilS u2 u3 (.slice ua (slen F4) uc)).toArray) ?_ rfl ⟨h4, F4, nilS, nilS, u2, u3, (.slice ua (slen F4) uc), rfl, q1, q2, (by have := s2; have := s3; have := s4; have l0 := lim0; have l1 := lim1; have l2 := lim2; (try simp only [ssize]); omega), q3, q4, ?_, ?_⟩
      rotate_left
      · rw [hzz]; exact (HVx.end O4.out.2.2.1 O4.out.2.1 hbN O4.out.1.gOf HK.out)
      · exact O4.out.1.low (by have := O4.out.2.2.2; have := V4.out.hn; omega) HH.out
      simp [results, Tryz.results112, asAddr, hlv, Act.put]
      try rfl
    · clear h0 hk1 hk4
      go_wp2_with (refine sA rfl 98 _ _ rfl _ _ _ rfl rfl ?htx sizeIS ?hox ?_; exact (newthere w1 _); exact (oneZ 4); intro W hW; have V := hid (VarS.start (k := 4) rfl hbN D1.out.1 D1.out.2.1 D1.out.2.2 hW); clear hW)
      obtain ⟨n, hn⟩ : ∃ n, w1.heap.size = n := ⟨_, rfl⟩
      rw [hn] at V ⊢
      clear hn D1
      obtain ⟨h0, hz0, hs0, V0⟩ : ∃ h0 : SH, hsize h0 ≤ 0 ∧ h0.s.size = 0 ∧ Hid (VarS B a len cap b w w.heap.size n h0 .nil nilS nilS nilS nilS nilS W) := ⟨zeroS 4, Nat.le_of_eq (hs_zero _), rfl, V⟩
      clear V
      go_wp2_with fail
      refine (l3Draw_all B a len cap b 2 (by omega) _ V0.out.dw).mono ?_
      rintro e w1 ⟨x1, u1, rfl, g1, s1, d1, wr1⟩
      have T1 := hid (V0.out.step wr1 d1)
      have G1 := hid (V0.out.evx g1)
      have i1 := g1.isOne
      clear V0 d1 wr1 g1
      go_wp2_with (first | (refine sA rfl 43 _ _ rfl _ _ _ rfl rfl ?ht4x1 sizeIE2 ?ho4x1 ?_; exact (T1.out.part 6 (by omega)); exact (oneX x1 u1 i1); intro W1 hW; have V1 : Hid (VarS B a len cap b w w.heap.size n { h0 with x2 := x1 } .nil nilS u1 nilS nilS nilS W1) := hid (by rw [← hW]; exact T1.out.set2 G1.out); clear hW) | (refine wpList_load_mid rfl 98 _ rfl n 0 rfl _ _ V1.out.rg Tryz.underlying98 rfl sizeIS ?_) | (refine sA rfl 98 _ _ rfl _ _ _ rfl rfl ?hte4x sizeIS ?hoe4x ?_; exact V1.out.thN; exact (oneS { h0 with x2 := x1 } nilS u1 nilS nilS nilS V1.out.ex.e1.ev.isOne V1.out.ex.e2.ev.isOne V1.out.ex.e3.ev.isOne V1.out.ex.e4.ev.isOne V1.out.sx.sv.isOne); intro WE hW; have HC := hid (V1.out.close hW); clear hW))
      have hz1 := hs_2 h0 x1
      obtain ⟨h1, hh1⟩ : ∃ h1 : SH, h1 = { h0 with x2 := x1 } := ⟨_, rfl⟩
      rw [← hh1] at hz1
      rw [← hh1] at HC
      obtain ⟨rg, q1, q2, q3, q4⟩ := HC.out
      have hlv := run_loadVar_mid WE w.heap.size 0 _ _ _ rg Tryz.underlying98 rfl sizeIS
      refine bodyPost_ret (v := .agg (scells h1 nilS u1 nilS nilS nilS).toArray) ?_ rfl ⟨h1, .nil, nilS, u1, nilS, nilS, nilS, rfl, q1, q2, (by have := s1; have l0 := lim0; have l1 := lim1; have l2 := lim2; (try simp only [ssize]); omega), q3, q4, HVx.zero q1 (by omega), SO.nil _ _⟩
      simp [results, Tryz.results112, asAddr, hlv, Act.put]
      try rfl
end Go.Proofs.YtpinockfakndlaaGreat
