/-
  Texts in one: AstDraw, AstDraw2.
-/
import Derived.Test.YtjdpddcnogdekaaGreatP02ofMx
import Derived.Test.YtjdpddcnogdekaaGreatP32ofMx
import Derived.Test.YtjdpddcnogdekaaGreatP33ofMx
/-
  Draws of expressions: the cursor in its block, what is drawn above it.
-/
namespace Go.Proofs.YtjdpddcnogdekaaGreat
open Go.RowKit Go.Lib
set_option linter.unusedSimpArgs false
set_option linter.unusedVariables false

/-- Nothing that was there has turned but block b. -/
structure Wr (b : Nat) (w w' : World) : Prop where
  os : w'.os = w.os
  tape : w'.tape = w.tape
  output : w'.output = w.output
  size : w.heap.size ≤ w'.heap.size
  block : ∀ k, k < w.heap.size → k ≠ b → w'.heap[k]? = w.heap[k]?
theorem Wr.refl (b : Nat) (w : World) : Wr b w w := ⟨rfl, rfl, rfl, Nat.le_refl _, fun _ _ _ => rfl⟩
theorem Wr.trans {b : Nat} {u v w : World} (h : Wr b u v) (k : Wr b v w) : Wr b u w :=
  ⟨k.os.trans h.os, k.tape.trans h.tape, k.output.trans h.output, Nat.le_trans h.size k.size, fun i hi hne => (k.block i (Nat.lt_of_lt_of_le hi h.size) hne).trans (h.block i hi hne)⟩
theorem Wr.of_below {b : Nat} {w w' : World} (h : Below w.heap.size w w') : Wr b w w' := ⟨h.os, h.tape, h.output, h.size, fun k hk _ => h.block k hk⟩
theorem Wr.of_touch {b : Nat} {w w' : World} (h : Touch b w w') : Wr b w w' := ⟨h.os, h.tape, h.output, Nat.le_of_eq h.size.symm, fun k _ hne => h.block k hne⟩
theorem Wr.below {b B : Nat} {w w' : World} (h : Wr b w w') (hB : B ≤ b) (hb : b < w.heap.size) : Below B w w' := ⟨h.os, h.tape, h.output, h.size, fun k hk => h.block k (by omega) (by omega)⟩
theorem Wr.keeps {b : Nat} {w w' : World} (h : Wr b w w') : Keeps (b + 1) w w' := fun a v hl hc => by
  have hlt := lt_of_cellA hc
  have e := h.block a.block hlt (by omega)
  rw [World.cell?_of_block e]; exact hc
theorem EV.wr {b lo : Nat} {w w' : World} {F : EF} {v : Value} (h : EV w lo F v) (hw : Wr b w w') (hlo : b + 1 ≤ lo) : EV w' lo F v := h.same (Nat.le_refl _) (fun a v hl hc => hw.keeps a v (by omega) hc)
/-- A draw under way: the bytes below B, the cursor at b. -/
structure Dw (B : Nat) (a : Option Addr) (len cap b : Nat) (w : World) : Prop where
  hlen : len ≤ 281474976710656
  hB : B ≤ b
  hC : CodeIs B w a len
  cur : Cur a len cap b w
theorem Dw.touch {B : Nat} {a : Option Addr} {len cap b : Nat} {w w' : World} (d : Dw B a len cap b w) (ht : Touch b w w') (hc : Cur a len cap b w') : Dw B a len cap b w' := ⟨d.hlen, d.hB, d.hC.later (ht.below d.hB), hc⟩
theorem Dw.later {B : Nat} {a : Option Addr} {len cap b : Nat} {w w' : World} (d : Dw B a len cap b w) (hb : Below w.heap.size w w') : Dw B a len cap b w' :=
  ⟨d.hlen, d.hB, d.hC.later (hb.mono (Nat.le_trans d.hB (Nat.le_of_lt d.cur.lt))), d.cur.later (hb.block b d.cur.lt)⟩
theorem Dw.wr {B : Nat} {a : Option Addr} {len cap b : Nat} {w w' : World} (d : Dw B a len cap b w) (hw : Wr b w w') (hc : Cur a len cap b w') : Dw B a len cap b w' := ⟨d.hlen, d.hB, d.hC.later (hw.below d.hB d.cur.lt), hc⟩
/-- An expression was drawn. -/
def Drawn (B : Nat) (a : Option Addr) (len cap b lim : Nat) (w : World) (e : Ending) (w' : World) : Prop :=
  ∃ (x : X) (v : Value), e = .returned (.agg (xcells x v).toArray) ∧ EV w' w.heap.size x.l v ∧ xsize x ≤ lim ∧ Dw B a len cap b w' ∧ Wr b w w'
theorem l1Int_is (B : Nat) (a : Option Addr) (len cap b lb n c : Nat) (q : Int → Prop) (w : World) (d : Dw B a len cap b w) (hn0 : 0 < n) (hn1 : n ≤ 1048576) (hlb : lb ≠ b) (hl : ∀ j, j < n → ∃ z : Int, w.cell? ⟨lb, j, none⟩ = some (.int .i64 z) ∧ q z) :
    Calls Tryz.prog 57 #[.pointer (some ⟨b, 0, none⟩), .slice (some ⟨lb, 0, none⟩) n c] w fun e w' => ∃ x : Int, e = .returned (.int .i64 x) ∧ q x ∧ Dw B a len cap b w' ∧ Wr b w w' := by
  go_enter Tryz.func57, Tryz.ntmps57
  go_wp2_with fail
  refine (l1Below B a len cap b _ _ d.hlen d.hB d.hC d.cur (by omega)).mono ?_
  rintro e w1 ⟨x, rfl, x0, x1, hc1, ht1⟩
  obtain ⟨y, rfl⟩ := Int.eq_ofNat_of_zero_le x0
  have hy : y < n := by omega
  obtain ⟨z, hz, qz⟩ := hl y hy
  have hz1 : w1.cell? ⟨lb, y, none⟩ = some (.int .i64 z) := by rw [World.cell?_of_block (w := w) (ht1.block lb hlb)]; exact hz
  go_wp2
  go_ret
  exact ⟨z, rfl, qz, d.touch ht1 hc1, .of_touch ht1⟩
theorem EV.laidLo {w : World} {lo g : Nat} {F : EF} {xs : List Value} (h : ERow w lo F xs) (hr : w.rangeAt g 0 xs) (c : Nat) (hlo : lo ≤ g) : EV w lo F (.slice (some ⟨g, 0, Option.none⟩) (elen F) c) :=
  ⟨g, 0, _, c, rfl, .inl rfl, hlo, ERow.laid 0 h (by simpa [World.rangeAt] using hr)⟩
theorem last_range (w : World) (arr : Array Value) (t : TypeId) (n : Nat) (hn : w.heap.size = n) : (w.alloc (.cells arr t)).rangeAt n 0 arr.toList := by
  subst hn
  exact blk_range (t := t) (fr := (0, 0)) (by show (w.heap.push _)[w.heap.size]? = _; simp)
end Go.Proofs.YtjdpddcnogdekaaGreat
/-
  The contract of l3Draw.
-/
namespace Go.Proofs.YtjdpddcnogdekaaGreat
open Go.RowKit Go.Lib
set_option linter.unusedSimpArgs false
set_option linter.unusedVariables false

def limD : Nat → Nat
  | 0 => 4
  | d + 1 => 2 * limD d + 4
theorem limD_pos (d : Nat) : 4 ≤ limD d := by cases d <;> simp [limD]
theorem there_wr {b n o m : Nat} {w w' : World} (h : w.there n o m) (hw : Wr b w w') (hne : n ≠ b) : w'.there n o m := fun j hj => by
  obtain ⟨h1, h2⟩ := h j hj
  obtain ⟨u, hu⟩ := Option.isSome_iff_exists.1 h1
  have e := hw.block n (lt_of_cellA hu) hne
  refine ⟨by rw [World.cell?_of_block (a := ⟨n, o + j, Option.none⟩) e, hu]; rfl, ?_⟩
  unfold World.frozen? at h2 ⊢
  simp only [e]
  exact h2
theorem range_wr {b n o : Nat} {cs : List Value} {w w' : World} (h : w.rangeAt n o cs) (hw : Wr b w w') (hne : n ≠ b) : w'.rangeAt n o cs := fun j v hv => by
  have hc := h j v hv
  rw [World.cell?_of_block (a := ⟨n, o + j, Option.none⟩) (hw.block n (lt_of_cellA hc) hne)]; exact hc
theorem ints_cell (w : World) (l : List Int) (q : Int → Prop) (hq : ∀ z ∈ l, q z) (n : Nat) (hn : w.heap.size = n) (j : Nat) (h : j < l.length) : ∃ z : Int, (w.alloc (.cells (l.map (Value.int .i64)).toArray 3)).cell? ⟨n, j, none⟩ = some (.int .i64 z) ∧ q z := by
  subst hn
  refine ⟨l[j], ?_, hq _ (List.getElem_mem h)⟩
  rw [World.cell?_alloc_new]
  simp [h]
theorem strs_cell (w : World) (l : List ByteArray) (q : ByteArray → Prop) (hq : ∀ z ∈ l, q z) (n : Nat) (hn : w.heap.size = n) (j : Nat) (h : j < l.length) : ∃ z : ByteArray, (w.alloc (.cells (l.map Value.string).toArray 9)).cell? ⟨n, j, none⟩ = some (.string z) ∧ q z := by
  subst hn
  refine ⟨l[j], ?_, hq _ (List.getElem_mem h)⟩
  rw [World.cell?_alloc_new]
  simp [h]
theorem l1Str_is (B : Nat) (a : Option Addr) (len cap b lb n c : Nat) (q : ByteArray → Prop) (w : World) (d : Dw B a len cap b w) (hn0 : 0 < n) (hn1 : n ≤ 1048576) (hlb : lb ≠ b) (hl : ∀ j, j < n → ∃ z : ByteArray, w.cell? ⟨lb, j, none⟩ = some (.string z) ∧ q z) :
    Calls Tryz.prog 50 #[.pointer (some ⟨b, 0, none⟩), .slice (some ⟨lb, 0, none⟩) n c] w fun e w' => ∃ x : ByteArray, e = .returned (.string x) ∧ q x ∧ Dw B a len cap b w' ∧ Wr b w w' :=
  (l1Str B a len cap b lb n c q w d.hlen d.hB d.hC d.cur hn0 hn1 hlb hl).mono fun e w' ⟨x, h1, h2, h3, h4⟩ => ⟨x, h1, h2, d.touch h4 h3, .of_touch h4⟩
theorem l1Below_is (B : Nat) (a : Option Addr) (len cap b : Nat) (n : Int) (w : World) (d : Dw B a len cap b w) (hn0 : 0 < n) :
    Calls Tryz.prog 52 #[.pointer (some ⟨b, 0, none⟩), .int .i64 n] w fun e w' => ∃ x : Int, e = .returned (.int .i64 x) ∧ (0 ≤ x ∧ x < n) ∧ Dw B a len cap b w' ∧ Wr b w w' :=
  (l1Below B a len cap b n w d.hlen d.hB d.hC d.cur hn0).mono fun e w' ⟨x, h1, h2, h3, h4, h5⟩ => ⟨x, h1, ⟨h2, h3⟩, d.touch h5 h4, .of_touch h5⟩
theorem lt_there {w : World} {n : Nat} (h : w.there n 0 4) : n + 1 ≤ w.heap.size := by
  obtain ⟨u, hu⟩ := Option.isSome_iff_exists.1 (h 0 (by omega)).1
  exact lt_of_cellA hu
/-- The answer is laid into its place. -/
theorem close {B : Nat} {a : Option Addr} {len cap b N : Nat} {w0 w1 W : World} {x : X} {v : Value} (hN : w0.heap.size = N) (hbN : b < N) (hth : w1.there N 0 4) (hv : EV w1 (N + 1) x.l v) (d1 : Dw B a len cap b w1) (hw : Wr b w0 w1) (hW : w1.setCells N 0 (xcells x v) = W) :
    W.rangeAt N 0 (xcells x v) ∧ EV W N x.l v ∧ Dw B a len cap b W ∧ Wr b w0 W := by
  have hB : Below N w1 W := by rw [← hW]; exact below_sets _ _ (Below.refl _ _) (Nat.le_refl _)
  have hs : w1.heap.size ≤ W.heap.size := by rw [← hW, size_sets]; exact Nat.le_refl _
  refine ⟨by rw [← hW]; exact World.rangeAt_setCells_same _ _ _ _ hth, (hv.same (Nat.le_succ _) (by rw [← hW]; exact Keeps.sets _ (by omega) _ _)), ⟨d1.hlen, d1.hB, d1.hC.later (hB.mono (by have := d1.hB; omega)), d1.cur.later (hB.block b hbN)⟩, ?_⟩
  exact ⟨hB.os.trans hw.os, hB.tape.trans hw.tape, hB.output.trans hw.output, Nat.le_trans hw.size hs, fun k hk hne => (hB.block k (by omega)).trans (hw.block k hk hne)⟩
theorem okKinds : ∀ z ∈ ([1, 2, 2, 3, 4, 4, 5, 6, 7, 8] : List Int), 1 ≤ z ∧ z ≤ 8 := by decide
theorem okNames5 : ∀ z ∈ ([⟨#[120]⟩, ⟨#[121]⟩, ⟨#[105]⟩, ⟨#[106]⟩, ⟨#[115]⟩] : List ByteArray), z.size ≤ 1 := by decide
theorem okNames2 : ∀ z ∈ ([⟨#[97]⟩, ⟨#[98]⟩] : List ByteArray), z.size ≤ 1 := by decide
end Go.Proofs.YtjdpddcnogdekaaGreat
