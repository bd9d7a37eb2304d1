/-
  Texts in one: CurText, AstDraw.
-/
import Derived.Test.YtfacenfiocdbgaaP24ofFnAffs
import Derived.WalkKit
import Derived.WalkLawsBesides
import Derived.Test.YtfacenfiocdbgaaP02ofFnAffs
/-
  One of a list of texts, drawn by the cursor; laws.at and laws.big.
-/
namespace Go.Proofs.Ytfacenfiocdbgaa
open Go.RowKit Go.Joins
theorem CodeIs.mono {B B' : Nat} {W : World} {a : Option Addr} {len : Nat} (h : CodeIs B W a len) (hB : B ≤ B') : CodeIs B' W a len := fun j hj => by
  obtain ⟨cb, off, z, e, hc, hz, z0, z1⟩ := h j hj
  exact ⟨cb, off, z, e, by omega, hz, z0, z1⟩
theorem big_is (a : Option Addr) (len cap : Nat) (w : World) : Calls Try.prog 7 #[.slice a len cap] w fun e w' => e = .returned (.bool (decide ((1048576 : Int) < (len : Int)))) ∧ w = w' := by
  go_enter Try.func7, Try.ntmps7
  go_wp2
  go_ret
  exact ⟨rfl, rfl⟩
theorem l1Str (B : Nat) (a : Option Addr) (len cap b lb n c : Nat) (q : ByteArray → Prop) (w : World) (hlen : len ≤ 281474976710656) (hB : B ≤ b) (hC : CodeIs B w a len) (hcur : Cur a len cap b w)
    (hn0 : 0 < n) (hn1 : n ≤ 1048576) (hlb : lb ≠ b) (hl : ∀ j, j < n → ∃ z : ByteArray, w.cell? ⟨lb, j, none⟩ = some (.string z) ∧ q z) :
    Calls Try.prog 41 #[.pointer (some ⟨b, 0, none⟩), .slice (some ⟨lb, 0, none⟩) n c] w fun e w' => ∃ x : ByteArray, e = .returned (.string x) ∧ q x ∧ Cur a len cap b w' ∧ Touch b w w' := by
  go_enter Try.func41, Try.ntmps41
  go_wp2_with fail
  refine (l1Below B a len cap b _ _ hlen hB hC hcur (by omega)).mono ?_
  rintro e w1 ⟨x, rfl, x0, x1, hc1, ht1⟩
  obtain ⟨y, rfl⟩ := Int.eq_ofNat_of_zero_le x0
  have hy : y < n := by omega
  obtain ⟨z, hz, qz⟩ := hl y hy
  have hz1 : w1.cell? ⟨lb, y, none⟩ = some (.string z) := by rw [World.cell?_of_block (w := w) (ht1.block lb hlb)]; exact hz
  go_wp2
  go_ret
  exact ⟨z, rfl, qz, hc1, ht1⟩
end Go.Proofs.Ytfacenfiocdbgaa
/-
  Draws of expressions: the cursor in its block, what is drawn above it.
-/
namespace Go.Proofs.Ytfacenfiocdbgaa
open Go.RowKit Go.Lib
set_option linter.unusedSimpArgs false
set_option linter.unusedVariables false

/-- Nothing that was there has turned but block b. -/
structure Wr (b : Nat) (w w' : World) : Prop where
  os : w'.os = w.os
  tape : w'.tape = w.tape
  output : w'.output = w.output
  size : w.heap.size ≤ w'.heap.size
  block : ∀ k, k < w.heap.size → k ≠ b → w'.heap[k]? = w.heap[k]?
theorem Wr.refl (b : Nat) (w : World) : Wr b w w := ⟨rfl, rfl, rfl, Nat.le_refl _, fun _ _ _ => rfl⟩
theorem Wr.trans {b : Nat} {u v w : World} (h : Wr b u v) (k : Wr b v w) : Wr b u w :=
  ⟨k.os.trans h.os, k.tape.trans h.tape, k.output.trans h.output, Nat.le_trans h.size k.size, fun i hi hne => (k.block i (Nat.lt_of_lt_of_le hi h.size) hne).trans (h.block i hi hne)⟩
theorem Wr.of_below {b : Nat} {w w' : World} (h : Below w.heap.size w w') : Wr b w w' := ⟨h.os, h.tape, h.output, h.size, fun k hk _ => h.block k hk⟩
theorem Wr.of_touch {b : Nat} {w w' : World} (h : Touch b w w') : Wr b w w' := ⟨h.os, h.tape, h.output, Nat.le_of_eq h.size.symm, fun k _ hne => h.block k hne⟩
theorem Wr.below {b B : Nat} {w w' : World} (h : Wr b w w') (hB : B ≤ b) (hb : b < w.heap.size) : Below B w w' := ⟨h.os, h.tape, h.output, h.size, fun k hk => h.block k (by omega) (by omega)⟩
theorem Wr.keeps {b : Nat} {w w' : World} (h : Wr b w w') : Keeps (b + 1) w w' := fun a v hl hc => by
  have hlt := lt_of_cellA hc
  have e := h.block a.block hlt (by omega)
  rw [World.cell?_of_block e]; exact hc
theorem EV.wr {b lo : Nat} {w w' : World} {F : EF} {v : Value} (h : EV w lo F v) (hw : Wr b w w') (hlo : b + 1 ≤ lo) : EV w' lo F v := h.same (Nat.le_refl _) (fun a v hl hc => hw.keeps a v (by omega) hc)
/-- A draw under way: the bytes below B, the cursor at b. -/
structure Dw (B : Nat) (a : Option Addr) (len cap b : Nat) (w : World) : Prop where
  hlen : len ≤ 281474976710656
  hB : B ≤ b
  hC : CodeIs B w a len
  cur : Cur a len cap b w
theorem Dw.touch {B : Nat} {a : Option Addr} {len cap b : Nat} {w w' : World} (d : Dw B a len cap b w) (ht : Touch b w w') (hc : Cur a len cap b w') : Dw B a len cap b w' := ⟨d.hlen, d.hB, d.hC.later (ht.below d.hB), hc⟩
theorem Dw.later {B : Nat} {a : Option Addr} {len cap b : Nat} {w w' : World} (d : Dw B a len cap b w) (hb : Below w.heap.size w w') : Dw B a len cap b w' :=
  ⟨d.hlen, d.hB, d.hC.later (hb.mono (Nat.le_trans d.hB (Nat.le_of_lt d.cur.lt))), d.cur.later (hb.block b d.cur.lt)⟩
theorem Dw.wr {B : Nat} {a : Option Addr} {len cap b : Nat} {w w' : World} (d : Dw B a len cap b w) (hw : Wr b w w') (hc : Cur a len cap b w') : Dw B a len cap b w' := ⟨d.hlen, d.hB, d.hC.later (hw.below d.hB d.cur.lt), hc⟩
/-- An expression was drawn. -/
def Drawn (B : Nat) (a : Option Addr) (len cap b lim : Nat) (w : World) (e : Ending) (w' : World) : Prop :=
  ∃ (x : X) (v : Value), e = .returned (.agg (xcells x v).toArray) ∧ EV w' w.heap.size x.l v ∧ xsize x ≤ lim ∧ Dw B a len cap b w' ∧ Wr b w w'
theorem l1Int_is (B : Nat) (a : Option Addr) (len cap b lb n c : Nat) (q : Int → Prop) (w : World) (d : Dw B a len cap b w) (hn0 : 0 < n) (hn1 : n ≤ 1048576) (hlb : lb ≠ b) (hl : ∀ j, j < n → ∃ z : Int, w.cell? ⟨lb, j, none⟩ = some (.int .i64 z) ∧ q z) :
    Calls Try.prog 51 #[.pointer (some ⟨b, 0, none⟩), .slice (some ⟨lb, 0, none⟩) n c] w fun e w' => ∃ x : Int, e = .returned (.int .i64 x) ∧ q x ∧ Dw B a len cap b w' ∧ Wr b w w' := by
  go_enter Try.func51, Try.ntmps51
  go_wp2_with fail
  refine (l1Below B a len cap b _ _ d.hlen d.hB d.hC d.cur (by omega)).mono ?_
  rintro e w1 ⟨x, rfl, x0, x1, hc1, ht1⟩
  obtain ⟨y, rfl⟩ := Int.eq_ofNat_of_zero_le x0
  have hy : y < n := by omega
  obtain ⟨z, hz, qz⟩ := hl y hy
  have hz1 : w1.cell? ⟨lb, y, none⟩ = some (.int .i64 z) := by rw [World.cell?_of_block (w := w) (ht1.block lb hlb)]; exact hz
  go_wp2
  go_ret
  exact ⟨z, rfl, qz, d.touch ht1 hc1, .of_touch ht1⟩
theorem EV.laidLo {w : World} {lo g : Nat} {F : EF} {xs : List Value} (h : ERow w lo F xs) (hr : w.rangeAt g 0 xs) (c : Nat) (hlo : lo ≤ g) : EV w lo F (.slice (some ⟨g, 0, Option.none⟩) (elen F) c) :=
  ⟨g, 0, _, c, rfl, .inl rfl, hlo, ERow.laid 0 h (by simpa [World.rangeAt] using hr)⟩
theorem last_range (w : World) (arr : Array Value) (t : TypeId) (n : Nat) (hn : w.heap.size = n) : (w.alloc (.cells arr t)).rangeAt n 0 arr.toList := by
  subst hn
  exact blk_range (t := t) (fr := (0, 0)) (by show (w.heap.push _)[w.heap.size]? = _; simp)
end Go.Proofs.Ytfacenfiocdbgaa
