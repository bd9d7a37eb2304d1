import Derived.Test.YtpinockfakndlaaGreatZp
import Derived.Test.YtpinockfakndlaaGreatRows
import Derived.WalkKit
import Derived.WalkLawsBesides
import Derived.Laws.BitsLemmas
import Derived.Lib.SmallJoins
import Derived.Lib.Hide
import Derived.Deep.QuietTactic
import Derived.BigQuiet
import Derived.Test.YtpinockfakndlaaGreatP01ofFnEvals
import Derived.Test.YtpinockfakndlaaGreatP03ofFnEvals
set_option maxHeartbeats 4000000
set_option maxRecDepth 100000
namespace Go.Proofs.YtpinockfakndlaaGreat
open Go.RowKit Go.Joins
set_option linter.unusedSimpArgs false
set_option linter.unusedVariables false
theorem i64_and255 (n : Int) : bits .and .i64 n 255 = n % 256 := by
  have h8 : (BitVec.ofInt 64 255).toNat = 2 ^ 8 - 1 := by decide
  have key : (BitVec.ofInt 64 n &&& BitVec.ofInt 64 255).toNat = (n % ((2 ^ 64 : Nat) : Int)).toNat % 2 ^ 8 := by
    rw [BitVec.toNat_and, BitVec.toNat_ofInt, h8, Nat.and_two_pow_sub_one_eq_mod]
  show IntKind.i64.wrap ((BitVec.ofInt 64 n &&& BitVec.ofInt 64 255).toNat : Nat) = n % 256
  rw [key, IntKind.wrap_i64]
  omega
structure Touch (b : Nat) (w w' : World) : Prop where
  os : w'.os = w.os
  tape : w'.tape = w.tape
  output : w'.output = w.output
  size : w'.heap.size = w.heap.size
  block : ∀ k, k ≠ b → w'.heap[k]? = w.heap[k]?
theorem Touch.refl (b : Nat) (w : World) : Touch b w w := ⟨rfl, rfl, rfl, rfl, fun _ _ => rfl⟩
theorem Touch.trans {b : Nat} {u v w : World} (h : Touch b u v) (k : Touch b v w) : Touch b u w :=
  ⟨k.os.trans h.os, k.tape.trans h.tape, k.output.trans h.output, k.size.trans h.size, fun i hi => (k.block i hi).trans (h.block i hi)⟩
theorem Touch.drewN {b : Nat} {u w : World} (h : Touch b u w) (n : Nat) : Touch b u (w.drewN n) := ⟨h.os, h.tape, h.output, h.size, h.block⟩
theorem Touch.setCell {b : Nat} {u w : World} (h : Touch b u w) (o : Nat) (v : Value) : Touch b u (w.setCell ⟨b, o, none⟩ v) :=
  h.trans ⟨rfl, rfl, rfl, by simp [World.setCell], fun k hk => Below.heap_setCell _ _ _ _ hk⟩
theorem Touch.below {b B : Nat} {u w : World} (h : Touch b u w) (hB : B ≤ b) : Below B u w := ⟨h.os, h.tape, h.output, by rw [h.size]; exact Nat.le_refl _, fun k hk => h.block k (by omega)⟩
def CodeIs (B : Nat) (W : World) (a : Option Addr) (len : Nat) : Prop :=
  ∀ j, j < len → ∃ cb off z, a = some ⟨cb, off, none⟩ ∧ cb < B ∧ W.cell? ⟨cb, off + j, none⟩ = some (.int .u8 z) ∧ 0 ≤ z ∧ z ≤ 255
theorem CodeIs.later {B : Nat} {W w : World} {a : Option Addr} {len : Nat} (h : CodeIs B W a len) (hb : Below B W w) : CodeIs B w a len := fun j hj => by
  obtain ⟨cb, off, z, e, hc, hz, z0, z1⟩ := h j hj
  exact ⟨cb, off, z, e, hc, by rw [hb.cell hc]; exact hz, z0, z1⟩
def Cur (a : Option Addr) (len cap b : Nat) (w : World) : Prop :=
  ∃ (k : Nat) (h : Int), k ≤ len ∧ w.heap[b]? = some (.cells #[.slice a len cap, .int .i64 k, .int .i64 h] 85 (0, 0))
theorem cur_mix {a : Option Addr} {len cap b k : Nat} {h : Int} {w : World} (hk : k ≤ len) (hb : w.heap[b]? = some (.cells #[.slice a len cap, .int .i64 k, .int .i64 h] 85 (0, 0))) (x : Int) (n : Nat) :
    Cur a len cap b ((w.setCell ⟨b, 2, none⟩ (.int .i64 x)).drewN n) := ⟨k, x, hk, by
  show (w.setCell ⟨b, 2, none⟩ (.int .i64 x)).heap[b]? = _
  rw [block_setCell hb]; rfl⟩
theorem cur_mix2 {a : Option Addr} {len cap b k : Nat} {h : Int} {w : World} (hk : k ≤ len) (hb : w.heap[b]? = some (.cells #[.slice a len cap, .int .i64 k, .int .i64 h] 85 (0, 0))) (x : Int) (n m : Nat) :
    Cur a len cap b (((w.setCell ⟨b, 2, none⟩ (.int .i64 x)).drewN n).drewN m) := cur_mix hk hb x n
theorem cur_next {a : Option Addr} {len cap b k : Nat} {h : Int} {w : World} (hk : k < len) (hb : w.heap[b]? = some (.cells #[.slice a len cap, .int .i64 k, .int .i64 h] 85 (0, 0))) (x : Int) (n : Nat) :
    Cur a len cap b (((w.setCell ⟨b, 2, none⟩ (.int .i64 x)).setCell ⟨b, 1, none⟩ (.int .i64 ((k : Int) + 1))).drewN n) := ⟨k + 1, x, hk, by
  show ((w.setCell ⟨b, 2, none⟩ (.int .i64 x)).setCell ⟨b, 1, none⟩ (.int .i64 ((k : Int) + 1))).heap[b]? = _
  rw [block_setCell (block_setCell hb _)]; rfl⟩
theorem l1Byte (B : Nat) (a : Option Addr) (len cap b : Nat) (w : World) (hlen : len ≤ 281474976710656) (hB : B ≤ b) (hC : CodeIs B w a len) (hcur : Cur a len cap b w) :
    Calls Tryz.prog 61 #[.pointer (some ⟨b, 0, none⟩)] w fun e w' => ∃ x : Int, e = .returned (.int .i64 x) ∧ 0 ≤ x ∧ x ≤ 255 ∧ Cur a len cap b w' ∧ Touch b w w' := by
  obtain ⟨k, h, hk, hblk⟩ := hcur
  have c0 : w.cell? ⟨b, 0, none⟩ = some (.slice a len cap) := by simp [World.cell?, hblk]
  have c1 : w.cell? ⟨b, 1, none⟩ = some (.int .i64 (k : Int)) := by simp [World.cell?, hblk]
  have c2 : w.cell? ⟨b, 2, none⟩ = some (.int .i64 h) := by simp [World.cell?, hblk]
  have f1 : w.frozen? ⟨b, 1, none⟩ = false := by simp [World.frozen?, hblk]
  have f2 : w.frozen? ⟨b, 2, none⟩ = false := by simp [World.frozen?, hblk]
  have hand := i64_and255
  have Hb := Lib.hid hblk
  clear hblk
  by_cases hlt : k < len
  · obtain ⟨cb, off, z, rfl, hcb, hz, z0, z1⟩ := hC k hlt
    have hne : cb ≠ b := by omega
    go_enter Tryz.func61, Tryz.ntmps61
    go_wp2
    go_quiet (fail)
    go_wp2
    go_quiet (fail)
    go_wp2
    go_quiet (fail)
    go_wp2
    go_ret
    exact ⟨_, rfl, by omega, by omega, cur_next hlt Hb.out _ _, (((Touch.refl b w).setCell 2 _).setCell 1 _).drewN _⟩
  · go_enter Tryz.func61, Tryz.ntmps61
    go_wp2
    go_quiet (fail)
    go_wp2
    go_quiet (fail)
    go_wp2
    go_ret
    exact ⟨_, rfl, by omega, by omega, cur_mix2 hk Hb.out _ _ _, (((Touch.refl b w).setCell 2 _).drewN _).drewN _⟩
theorem cur_new (a : Option Addr) (len cap : Nat) (x : Int) (w : World) : Cur a len cap w.heap.size (w.alloc (.cells #[.slice a len cap, .int .i64 0, .int .i64 x] 85)) :=
  ⟨0, x, Nat.zero_le _, by show (w.heap.push _)[w.heap.size]? = _; simp⟩
theorem Cur.later {a : Option Addr} {len cap b : Nat} {w w' : World} (h : Cur a len cap b w) (e : w'.heap[b]? = w.heap[b]?) : Cur a len cap b w' := by
  obtain ⟨k, x, hk, hb⟩ := h
  exact ⟨k, x, hk, e.trans hb⟩
theorem Cur.lt {a : Option Addr} {len cap b : Nat} {w : World} (h : Cur a len cap b w) : b < w.heap.size := by
  obtain ⟨k, x, hk, hb⟩ := h
  exact (Array.getElem?_eq_some_iff.1 hb).1
theorem l1New (B : Nat) (a : Option Addr) (len cap : Nat) (w : World) (hlen : len ≤ 281474976710656) (hC : CodeIs B w a len) :
    Calls Tryz.prog 21 #[.slice a len cap] w fun e w' => e = .returned (.pointer (some ⟨w.heap.size, 0, none⟩)) ∧ Cur a len cap w.heap.size w' ∧ Below w.heap.size w w' := by
  go_enter Tryz.func21, Tryz.ntmps21
  go_wp2
  go_loop [3, 4] (fun h i => ∃ (x : Int) (k : Nat), h = .int .i64 x ∧ i = .int .i64 k ∧ k ≤ len) (fun _ i => len - (intOf i).toNat)
  case atStart => exact ⟨_, 0, rfl, rfl, by omega⟩
  case round =>
    obtain ⟨x, k, rfl, rfl, hk⟩ := hrel
    by_cases hlt : k < len ∧ k < 4000
    · obtain ⟨hlt, h4'⟩ := hlt
      have h4 : (k : Int) < 4000 := by omega
      clear h4'
      obtain ⟨cb, off, z, rfl, hcb, hz, z0, z1⟩ := hC k hlt
      go_wp2
      go_round
      case rel => exact ⟨_, k + 1, rfl, by go_num, by omega⟩
      case measure => simp [intOf]; omega
    · by_cases hlt2 : k < len
      · obtain ⟨y, hy⟩ : ∃ y : Int, (k : Int) = y := ⟨_, rfl⟩
        have h4 : (4000 : Int) ≤ y := by omega
        rw [hy]
        have h5 : y < (len : Int) := by omega
        clear hlt hlt2 hk hy
        go_wp2
        go_ret
        exact ⟨rfl, cur_new _ _ _ _ _, (Below.refl _ _).alloc (Nat.le_refl _) _⟩
      · clear hlt
        go_wp2
        go_ret
        exact ⟨rfl, cur_new _ _ _ _ _, (Below.refl _ _).alloc (Nat.le_refl _) _⟩
theorem l1Below (B : Nat) (a : Option Addr) (len cap b : Nat) (n : Int) (w : World) (hlen : len ≤ 281474976710656) (hB : B ≤ b) (hC : CodeIs B w a len) (hcur : Cur a len cap b w) (hn0 : 0 < n) :
    Calls Tryz.prog 30 #[.pointer (some ⟨b, 0, none⟩), .int .i64 n] w fun e w' => ∃ x : Int, e = .returned (.int .i64 x) ∧ 0 ≤ x ∧ x < n ∧ Cur a len cap b w' ∧ Touch b w w' := by
  have hn1 : n ≠ 0 := by omega
  by_cases h256 : n ≤ 256
  · go_enter Tryz.func30, Tryz.ntmps30
    go_wp2_with (go_at_call 61; refine (l1Byte B a len cap b _ hlen hB hC hcur).mono ?_; rintro e w1 ⟨x, rfl, x0, x1, hc1, ht1⟩)
    go_ret
    exact ⟨_, rfl, Int.emod_nonneg _ hn1, Int.emod_lt_of_pos _ hn0, hc1, ht1⟩
  · go_enter Tryz.func30, Tryz.ntmps30
    go_wp2_with fail
    refine (l1Byte B a len cap b _ hlen hB hC hcur).mono ?_
    rintro e w1 ⟨x, rfl, x0, x1, hc1, ht1⟩
    have hC1 := hC.later (ht1.below hB)
    go_wp2_with fail
    refine (l1Byte B a len cap b _ hlen hB hC1 hc1).mono ?_
    rintro e w2 ⟨y, rfl, y0, y1, hc2, ht2⟩
    have hC2 := hC1.later (ht2.below hB)
    go_wp2_with fail
    refine (l1Byte B a len cap b _ hlen hB hC2 hc2).mono ?_
    rintro e w3 ⟨z, rfl, z0, z1, hc3, ht3⟩
    go_wp2
    go_ret
    exact ⟨_, rfl, Int.emod_nonneg _ hn1, Int.emod_lt_of_pos _ hn0, hc3, (ht1.trans ht2).trans ht3⟩
theorem l1Once (B : Nat) (a : Option Addr) (len cap b : Nat) (n : Int) (w : World) (hlen : len ≤ 281474976710656) (hB : B ≤ b) (hC : CodeIs B w a len) (hcur : Cur a len cap b w) (hn0 : 0 < n) :
    Calls Tryz.prog 47 #[.pointer (some ⟨b, 0, none⟩), .int .i64 n] w fun e w' => ∃ x : Bool, e = .returned (.bool x) ∧ Cur a len cap b w' ∧ Touch b w w' := by
  go_enter Tryz.func47, Tryz.ntmps47
  go_wp2_with (go_at_call 30; refine (l1Below B a len cap b _ _ hlen hB hC hcur hn0).mono ?_; rintro e w1 ⟨x, rfl, x0, x1, hc1, ht1⟩)
  go_ret
  exact ⟨_, rfl, hc1, ht1⟩
theorem CodeIs.mono {B B' : Nat} {W : World} {a : Option Addr} {len : Nat} (h : CodeIs B W a len) (hB : B ≤ B') : CodeIs B' W a len := fun j hj => by
  obtain ⟨cb, off, z, e, hc, hz, z0, z1⟩ := h j hj
  exact ⟨cb, off, z, e, by omega, hz, z0, z1⟩
theorem big_is (a : Option Addr) (len cap : Nat) (w : World) : Calls Tryz.prog 5 #[.slice a len cap] w fun e w' => e = .returned (.bool (decide ((1048576 : Int) < (len : Int)))) ∧ w = w' := by
  go_enter Tryz.func5, Tryz.ntmps5
  go_wp2
  go_ret
  exact ⟨rfl, rfl⟩
theorem l1Str (B : Nat) (a : Option Addr) (len cap b lb n c : Nat) (q : ByteArray → Prop) (w : World) (hlen : len ≤ 281474976710656) (hB : B ≤ b) (hC : CodeIs B w a len) (hcur : Cur a len cap b w)
    (hn0 : 0 < n) (hn1 : n ≤ 1048576) (hlb : lb ≠ b) (hl : ∀ j, j < n → ∃ z : ByteArray, w.cell? ⟨lb, j, none⟩ = some (.string z) ∧ q z) :
    Calls Tryz.prog 59 #[.pointer (some ⟨b, 0, none⟩), .slice (some ⟨lb, 0, none⟩) n c] w fun e w' => ∃ x : ByteArray, e = .returned (.string x) ∧ q x ∧ Cur a len cap b w' ∧ Touch b w w' := by
  go_enter Tryz.func59, Tryz.ntmps59
  go_wp2_with fail
  refine (l1Below B a len cap b _ _ hlen hB hC hcur (by omega)).mono ?_
  rintro e w1 ⟨x, rfl, x0, x1, hc1, ht1⟩
  obtain ⟨y, rfl⟩ := Int.eq_ofNat_of_zero_le x0
  have hy : y < n := by omega
  obtain ⟨z, hz, qz⟩ := hl y hy
  have hz1 : w1.cell? ⟨lb, y, none⟩ = some (.string z) := by rw [World.cell?_of_block (w := w) (ht1.block lb hlb)]; exact hz
  go_wp2
  go_ret
  exact ⟨z, rfl, qz, hc1, ht1⟩
end Go.Proofs.YtpinockfakndlaaGreat
namespace Go.Proofs.YtpinockfakndlaaGreat
open Go.RowKit Go.Lib
set_option linter.unusedSimpArgs false
set_option linter.unusedVariables false
structure Wr (b : Nat) (w w' : World) : Prop where
  os : w'.os = w.os
  tape : w'.tape = w.tape
  output : w'.output = w.output
  size : w.heap.size ≤ w'.heap.size
  block : ∀ k, k < w.heap.size → k ≠ b → w'.heap[k]? = w.heap[k]?
theorem Wr.refl (b : Nat) (w : World) : Wr b w w := ⟨rfl, rfl, rfl, Nat.le_refl _, fun _ _ _ => rfl⟩
theorem Wr.trans {b : Nat} {u v w : World} (h : Wr b u v) (k : Wr b v w) : Wr b u w :=
  ⟨k.os.trans h.os, k.tape.trans h.tape, k.output.trans h.output, Nat.le_trans h.size k.size, fun i hi hne => (k.block i (Nat.lt_of_lt_of_le hi h.size) hne).trans (h.block i hi hne)⟩
theorem Wr.of_below {b : Nat} {w w' : World} (h : Below w.heap.size w w') : Wr b w w' := ⟨h.os, h.tape, h.output, h.size, fun k hk _ => h.block k hk⟩
theorem Wr.of_touch {b : Nat} {w w' : World} (h : Touch b w w') : Wr b w w' := ⟨h.os, h.tape, h.output, Nat.le_of_eq h.size.symm, fun k _ hne => h.block k hne⟩
theorem Wr.keeps {b : Nat} {w w' : World} (h : Wr b w w') : Keeps (b + 1) w w' := fun a v hl hc => by
  have hlt := lt_of_cellA hc
  have e := h.block a.block hlt (by omega)
  rw [World.cell?_of_block e]; exact hc
theorem EV.wr {b lo : Nat} {w w' : World} {F : EF} {v : Value} (h : EV w lo F v) (hw : Wr b w w') (hlo : b + 1 ≤ lo) : EV w' lo F v := h.same (Nat.le_refl _) (fun a v hl hc => hw.keeps a v (by omega) hc)
structure Dw (B : Nat) (a : Option Addr) (len cap b : Nat) (w : World) : Prop where
  hlen : len ≤ 281474976710656
  hB : B ≤ b
  hC : CodeIs B w a len
  cur : Cur a len cap b w
theorem Dw.touch {B : Nat} {a : Option Addr} {len cap b : Nat} {w w' : World} (d : Dw B a len cap b w) (ht : Touch b w w') (hc : Cur a len cap b w') : Dw B a len cap b w' := ⟨d.hlen, d.hB, d.hC.later (ht.below d.hB), hc⟩
theorem Dw.later {B : Nat} {a : Option Addr} {len cap b : Nat} {w w' : World} (d : Dw B a len cap b w) (hb : Below w.heap.size w w') : Dw B a len cap b w' :=
  ⟨d.hlen, d.hB, d.hC.later (hb.mono (Nat.le_trans d.hB (Nat.le_of_lt d.cur.lt))), d.cur.later (hb.block b d.cur.lt)⟩
def Drawn (B : Nat) (a : Option Addr) (len cap b lim : Nat) (w : World) (e : Ending) (w' : World) : Prop :=
  ∃ (x : X) (v : Value), e = .returned (.agg (xC x v).toArray) ∧ EV w' w.heap.size x.l v ∧ xsize x ≤ lim ∧ Dw B a len cap b w' ∧ Wr b w w'
theorem l1Int_is (B : Nat) (a : Option Addr) (len cap b lb n c : Nat) (q : Int → Prop) (w : World) (d : Dw B a len cap b w) (hn0 : 0 < n) (hn1 : n ≤ 1048576) (hlb : lb ≠ b) (hl : ∀ j, j < n → ∃ z : Int, w.cell? ⟨lb, j, none⟩ = some (.int .i64 z) ∧ q z) :
    Calls Tryz.prog 23 #[.pointer (some ⟨b, 0, none⟩), .slice (some ⟨lb, 0, none⟩) n c] w fun e w' => ∃ x : Int, e = .returned (.int .i64 x) ∧ q x ∧ Dw B a len cap b w' ∧ Wr b w w' := by
  go_enter Tryz.func23, Tryz.ntmps23
  go_wp2_with fail
  refine (l1Below B a len cap b _ _ d.hlen d.hB d.hC d.cur (by omega)).mono ?_
  rintro e w1 ⟨x, rfl, x0, x1, hc1, ht1⟩
  obtain ⟨y, rfl⟩ := Int.eq_ofNat_of_zero_le x0
  have hy : y < n := by omega
  obtain ⟨z, hz, qz⟩ := hl y hy
  have hz1 : w1.cell? ⟨lb, y, none⟩ = some (.int .i64 z) := by rw [World.cell?_of_block (w := w) (ht1.block lb hlb)]; exact hz
  go_wp2
  go_ret
  exact ⟨z, rfl, qz, d.touch ht1 hc1, .of_touch ht1⟩
theorem l3Num_is (n : Int) (w : World) : Calls Tryz.prog 76 #[.int .i64 n] w fun e w' => e = .returned (.agg (xC ⟨⟨1, n, ⟨#[]⟩⟩, .nil⟩ (.slice Option.none 0 0)).toArray) ∧ Below w.heap.size w w' := by
  go_enter Tryz.func76, Tryz.ntmps76
  go_wp2
  exact bodyPost_ret (v := .agg #[.int .i64 1, .int .i64 n, .string ⟨#[]⟩, .slice Option.none 0 0]) (by simp [results, Tryz.results76, go_sem]) rfl ⟨rfl, aB _ _⟩
theorem l3Var_is (s : ByteArray) (w : World) : Calls Tryz.prog 119 #[.string s] w fun e w' => e = .returned (.agg (xC ⟨⟨2, 0, s⟩, .nil⟩ (.slice Option.none 0 0)).toArray) ∧ Below w.heap.size w w' := by
  go_enter Tryz.func119, Tryz.ntmps119
  go_wp2
  exact bodyPost_ret (v := .agg #[.int .i64 2, .int .i64 0, .string s, .slice Option.none 0 0]) (by simp [results, Tryz.results119, go_sem]) rfl ⟨rfl, aB _ _⟩
theorem EV.laidLo {w : World} {lo g : Nat} {F : EF} {xs : List Value} (h : ERow w lo F xs) (hr : w.rangeAt g 0 xs) (c : Nat) (hlo : lo ≤ g) : EV w lo F (.slice (some ⟨g, 0, Option.none⟩) (elen F) c) :=
  ⟨g, 0, _, c, rfl, .inl rfl, hlo, ERow.laid 0 h (by simpa [World.rangeAt] using hr)⟩
theorem last_range (w : World) (arr : Array Value) (t : TypeId) (n : Nat) (hn : w.heap.size = n) : (w.alloc (.cells arr t)).rangeAt n 0 arr.toList := by
  subst hn
  exact blk_range (t := t) (fr := (0, 0)) (by show (w.heap.push _)[w.heap.size]? = _; simp)
theorem l3At_is (s : ByteArray) (x : X) (lo : Nat) (w : World) (v : Value) (hv : EV w lo x.l v) (hlo : lo ≤ w.heap.size) : Calls Tryz.prog 120 #[.string s, .agg (xC x v).toArray] w fun e w' => ∃ u, e = .returned (.agg (xC ⟨⟨3, 0, s⟩, .node 0 0 x.h x.l .nil⟩ u).toArray) ∧ EV w' lo (.node 0 0 x.h x.l .nil) u ∧ Below w.heap.size w w' := by
  show Calls Tryz.prog 120 #[.string s, .agg #[.int .i64 x.h.k, .int .i64 x.h.n, .string x.h.s, v]] w _
  have Hv := hid hv
  obtain ⟨va, vc, rfl⟩ := hv.shape
  clear hv
  go_enter Tryz.func120, Tryz.ntmps120
  go_wp2
  have hb := ((aB w (.cells #[.int .i64 x.h.k, .int .i64 x.h.n, .string x.h.s, .slice va (elen x.l) vc] 43)).alloc (by simp) (.cells #[.int .i64 3, .int .i64 0, .string s, .slice (some ⟨w.heap.size + 1 + 1, 0, Option.none⟩) 1 1] 43)).alloc (by simp; omega) (.cells (xC x (.slice va (elen x.l) vc)).toArray 43)
  refine bodyPost_ret (v := .agg #[.int .i64 3, .int .i64 0, .string s, .slice (some ⟨w.heap.size + 1 + 1, 0, Option.none⟩) 1 1]) (by simp [results, Tryz.results120, go_sem]) rfl ⟨_, rfl, EV.laidLo (F := .node 0 0 x.h x.l .nil) (ERow.one (Hv.out.later hb)) (last_range _ _ _ _ (by simp)) 1 (by omega), hb⟩
theorem l3Two_is (k : Int) (x y : X) (lo : Nat) (w : World) (u v : Value) (hu : EV w lo x.l u) (hv : EV w lo y.l v) (hlo : lo ≤ w.heap.size) : Calls Tryz.prog 75 #[.int .i64 k, .agg (xC x u).toArray, .agg (xC y v).toArray] w fun e w' => ∃ z, e = .returned (.agg (xC ⟨⟨k, 0, ⟨#[]⟩⟩, .node 0 0 x.h x.l (.node 0 0 y.h y.l .nil)⟩ z).toArray) ∧ EV w' lo (.node 0 0 x.h x.l (.node 0 0 y.h y.l .nil)) z ∧ Below w.heap.size w w' := by
  show Calls Tryz.prog 75 #[.int .i64 k, .agg #[.int .i64 x.h.k, .int .i64 x.h.n, .string x.h.s, u], .agg #[.int .i64 y.h.k, .int .i64 y.h.n, .string y.h.s, v]] w _
  have Hu := hid hu
  have Hv := hid hv
  obtain ⟨ua, uc, rfl⟩ := hu.shape
  obtain ⟨va, vc, rfl⟩ := hv.shape
  clear hu hv
  go_enter Tryz.func75, Tryz.ntmps75
  go_wp2
  have hb := (((aB w (.cells #[.int .i64 x.h.k, .int .i64 x.h.n, .string x.h.s, .slice ua (elen x.l) uc] 43)).alloc (by simp) (.cells #[.int .i64 y.h.k, .int .i64 y.h.n, .string y.h.s, .slice va (elen y.l) vc] 43)).alloc (by simp; omega) (.cells #[.int .i64 k, .int .i64 0, .string ⟨#[]⟩, .slice (some ⟨w.heap.size + 1 + 1 + 1, 0, Option.none⟩) 2 2] 43)).alloc (by simp; omega) (.cells (xC x (.slice ua (elen x.l) uc) ++ xC y (.slice va (elen y.l) vc)).toArray 43)
  refine bodyPost_ret (v := .agg #[.int .i64 k, .int .i64 0, .string ⟨#[]⟩, .slice (some ⟨w.heap.size + 1 + 1 + 1, 0, Option.none⟩) 2 2]) (by simp [results, Tryz.results75, go_sem]) rfl ⟨_, rfl, EV.laidLo (F := .node 0 0 x.h x.l (.node 0 0 y.h y.l .nil)) ((ERow.one (Hu.out.later hb)).app (P := .node 0 0 x.h x.l .nil) (ERow.one (Hv.out.later hb))) (last_range _ _ _ _ (by simp)) 2 (by omega), hb⟩
def limD : Nat → Nat
  | 0 => 4
  | d + 1 => 2 * limD d + 4
theorem limD_pos (d : Nat) : 4 ≤ limD d := by cases d <;> simp [limD]
theorem there_wr {b n o m : Nat} {w w' : World} (h : w.there n o m) (hw : Wr b w w') (hne : n ≠ b) : w'.there n o m := fun j hj => by
  obtain ⟨h1, h2⟩ := h j hj
  obtain ⟨u, hu⟩ := Option.isSome_iff_exists.1 h1
  have e := hw.block n (lt_of_cellA hu) hne
  refine ⟨by rw [World.cell?_of_block (a := ⟨n, o + j, Option.none⟩) e, hu]; rfl, ?_⟩
  unfold World.frozen? at h2 ⊢
  simp only [e]
  exact h2
theorem range_wr {b n o : Nat} {cs : List Value} {w w' : World} (h : w.rangeAt n o cs) (hw : Wr b w w') (hne : n ≠ b) : w'.rangeAt n o cs := fun j v hv => by
  have hc := h j v hv
  rw [World.cell?_of_block (a := ⟨n, o + j, Option.none⟩) (hw.block n (lt_of_cellA hc) hne)]; exact hc
theorem ints_cell (w : World) (l : List Int) (q : Int → Prop) (hq : ∀ z ∈ l, q z) (n : Nat) (hn : w.heap.size = n) (j : Nat) (h : j < l.length) : ∃ z : Int, (w.alloc (.cells (l.map (Value.int .i64)).toArray 3)).cell? ⟨n, j, none⟩ = some (.int .i64 z) ∧ q z := by
  subst hn
  refine ⟨l[j], ?_, hq _ (List.getElem_mem h)⟩
  rw [World.cell?_alloc_new]
  simp [h]
theorem strs_cell (w : World) (l : List ByteArray) (q : ByteArray → Prop) (hq : ∀ z ∈ l, q z) (n : Nat) (hn : w.heap.size = n) (j : Nat) (h : j < l.length) : ∃ z : ByteArray, (w.alloc (.cells (l.map Value.string).toArray 9)).cell? ⟨n, j, none⟩ = some (.string z) ∧ q z := by
  subst hn
  refine ⟨l[j], ?_, hq _ (List.getElem_mem h)⟩
  rw [World.cell?_alloc_new]
  simp [h]
theorem l1Str_is (B : Nat) (a : Option Addr) (len cap b lb n c : Nat) (q : ByteArray → Prop) (w : World) (d : Dw B a len cap b w) (hn0 : 0 < n) (hn1 : n ≤ 1048576) (hlb : lb ≠ b) (hl : ∀ j, j < n → ∃ z : ByteArray, w.cell? ⟨lb, j, none⟩ = some (.string z) ∧ q z) :
    Calls Tryz.prog 59 #[.pointer (some ⟨b, 0, none⟩), .slice (some ⟨lb, 0, none⟩) n c] w fun e w' => ∃ x : ByteArray, e = .returned (.string x) ∧ q x ∧ Dw B a len cap b w' ∧ Wr b w w' :=
  (l1Str B a len cap b lb n c q w d.hlen d.hB d.hC d.cur hn0 hn1 hlb hl).mono fun e w' ⟨x, h1, h2, h3, h4⟩ => ⟨x, h1, h2, d.touch h4 h3, .of_touch h4⟩
theorem l1Below_is (B : Nat) (a : Option Addr) (len cap b : Nat) (n : Int) (w : World) (d : Dw B a len cap b w) (hn0 : 0 < n) :
    Calls Tryz.prog 30 #[.pointer (some ⟨b, 0, none⟩), .int .i64 n] w fun e w' => ∃ x : Int, e = .returned (.int .i64 x) ∧ (0 ≤ x ∧ x < n) ∧ Dw B a len cap b w' ∧ Wr b w w' :=
  (l1Below B a len cap b n w d.hlen d.hB d.hC d.cur hn0).mono fun e w' ⟨x, h1, h2, h3, h4, h5⟩ => ⟨x, h1, ⟨h2, h3⟩, d.touch h5 h4, .of_touch h5⟩
theorem lt_there {w : World} {n : Nat} (h : w.there n 0 4) : n + 1 ≤ w.heap.size := by
  obtain ⟨u, hu⟩ := Option.isSome_iff_exists.1 (h 0 (by omega)).1
  exact lt_of_cellA hu
theorem close {B : Nat} {a : Option Addr} {len cap b N : Nat} {w0 w1 W : World} {x : X} {v : Value} (hN : w0.heap.size = N) (hbN : b < N) (hth : w1.there N 0 4) (hv : EV w1 (N + 1) x.l v) (d1 : Dw B a len cap b w1) (hw : Wr b w0 w1) (hW : w1.setCells N 0 (xC x v) = W) :
    W.rangeAt N 0 (xC x v) ∧ EV W N x.l v ∧ Dw B a len cap b W ∧ Wr b w0 W := by
  have hB : Below N w1 W := by rw [← hW]; exact below_sets _ _ (Below.refl _ _) (Nat.le_refl _)
  have hs : w1.heap.size ≤ W.heap.size := by rw [← hW, size_sets]; exact Nat.le_refl _
  refine ⟨by rw [← hW]; exact World.rangeAt_setCells_same _ _ _ _ hth, (hv.same (Nat.le_succ _) (by rw [← hW]; exact Keeps.sets _ (by omega) _ _)), ⟨d1.hlen, d1.hB, d1.hC.later (hB.mono (by have := d1.hB; omega)), d1.cur.later (hB.block b hbN)⟩, ?_⟩
  exact ⟨hB.os.trans hw.os, hB.tape.trans hw.tape, hB.output.trans hw.output, Nat.le_trans hw.size hs, fun k hk hne => (hB.block k (by omega)).trans (hw.block k hk hne)⟩
theorem okKinds : ∀ z ∈ ([1, 2, 2, 3, 4, 4, 5, 6, 7, 8] : List Int), 1 ≤ z ∧ z ≤ 8 := by decide
theorem okNames5 : ∀ z ∈ ([⟨#[120]⟩, ⟨#[121]⟩, ⟨#[105]⟩, ⟨#[106]⟩, ⟨#[115]⟩] : List ByteArray), z.size ≤ 1 := by decide
theorem okNames2 : ∀ z ∈ ([⟨#[97]⟩, ⟨#[98]⟩] : List ByteArray), z.size ≤ 1 := by decide
theorem l3Draw_step (d : Nat) (hd : d ≤ 20) (B : Nat) (a : Option Addr) (len cap b : Nat)
    (ih : 1 ≤ d → ∀ w, Dw B a len cap b w → Calls Tryz.prog 74 #[.pointer (some ⟨b, 0, none⟩), .int .i64 ((d : Int) - 1)] w (Drawn B a len cap b (limD (d - 1)) w))
    (w : World) (hdw : Dw B a len cap b w) : Calls Tryz.prog 74 #[.pointer (some ⟨b, 0, none⟩), .int .i64 (d : Int)] w (Drawn B a len cap b (limD d) w) := by
  have Hih := hid ih
  have HD := hid hdw
  have hbN := hdw.cur.lt
  have hdI : (d : Int) ≤ 20 := by omega
  clear ih hdw
  go_enter Tryz.func74, Tryz.ntmps74
  go_wp2_with fail
  have b0 := (aB w (.cells zero4 43)).alloc (by simp) (.cells (([1, 2, 2, 3, 4, 4, 5, 6, 7, 8] : List Int).map (Value.int .i64)).toArray 3)
  have th0 : ((w.alloc (.cells zero4 43)).alloc (.cells (([1, 2, 2, 3, 4, 4, 5, 6, 7, 8] : List Int).map (Value.int .i64)).toArray 3)).there w.heap.size 0 4 := there_later (newthere4 w 43) (aB _ _)
  refine (l1Int_is B a len cap b (w.heap.size + 1) 10 10 (fun z => 1 ≤ z ∧ z ≤ 8) _ (HD.out.later b0) (by omega) (by omega) (by omega) (fun j hj => ints_cell _ _ _ okKinds _ (by simp) j hj)).mono ?_
  rintro e w1 ⟨k, rfl, ⟨hk1, hk8⟩, d1, wr1⟩
  have D1 := hid (And.intro d1 (And.intro ((Wr.of_below b0).trans wr1) (there_wr th0 wr1 (by omega))))
  clear d1 wr1 b0 th0
  by_cases h0 : d = 0
  · have hd0 : (d : Int) ≤ 0 := by omega
    by_cases h2 : 2 < k
    · clear h0 hk1 hk8
      go_wp2_with fail
      refine (l1Below_is B a len cap b 10 _ D1.out.1 (by omega)).mono ?_
      rintro e w2 ⟨y, rfl, _, d2, wr2⟩
      have D2 := hid (And.intro d2 (And.intro (D1.out.2.1.trans wr2) (there_wr D1.out.2.2 wr2 (by omega))))
      clear d2 wr2 D1
      go_wp2_with fail
      refine (l3Num_is y _).mono ?_
      rintro e w3 ⟨rfl, hb3⟩
      have D3 := hid (And.intro (D2.out.1.later hb3) (And.intro (D2.out.2.1.trans (.of_below hb3)) (there_later D2.out.2.2 hb3)))
      clear hb3 D2
      go_wp2_with (refine sA rfl 43 _ _ rfl _ _ _ rfl rfl ?htn1 sizeIE2 ?hon1 ?_; exact D3.out.2.2; exact (oneX (⟨⟨1, y, ⟨#[]⟩⟩, .nil⟩ : X) (.slice Option.none 0 0 : Value) rfl); intro W hW; have HW := hid (close rfl hbN D3.out.2.2 (EV.nil _ _ _ _) D3.out.1 D3.out.2.1 hW); clear hW)
      obtain ⟨rg, g1, g2, g3⟩ := HW.out
      have hlv := run_loadVar_mid W w.heap.size 0 _ _ _ rg Tryz.underlying43 rfl sizeIE2
      refine bodyPost_ret (v := .agg (xC ((⟨⟨1, y, ⟨#[]⟩⟩, .nil⟩ : X)) ((.slice Option.none 0 0 : Value))).toArray) ?_ rfl ⟨(⟨⟨1, y, ⟨#[]⟩⟩, .nil⟩ : X), (.slice Option.none 0 0 : Value), rfl, g1, (by have h1 := limD_pos d; have h1z := limD_pos 0; have h0 : xsize (⟨⟨1, y, ⟨#[]⟩⟩, .nil⟩ : X) = 0 := rfl; rw [h0]; omega), g2, g3⟩
      simp [results, Tryz.results74, asAddr, hlv]
    · obtain rfl | rfl : k = 1 ∨ k = 2 := by omega
      · clear h0 hk1 hk8 h2
        go_wp2_with fail
        refine (l1Below_is B a len cap b 10 _ D1.out.1 (by omega)).mono ?_
        rintro e w2 ⟨y, rfl, _, d2, wr2⟩
        have D2 := hid (And.intro d2 (And.intro (D1.out.2.1.trans wr2) (there_wr D1.out.2.2 wr2 (by omega))))
        clear d2 wr2 D1
        go_wp2_with fail
        refine (l3Num_is y _).mono ?_
        rintro e w3 ⟨rfl, hb3⟩
        have D3 := hid (And.intro (D2.out.1.later hb3) (And.intro (D2.out.2.1.trans (.of_below hb3)) (there_later D2.out.2.2 hb3)))
        clear hb3 D2
        go_wp2_with (refine sA rfl 43 _ _ rfl _ _ _ rfl rfl ?htn2 sizeIE2 ?hon2 ?_; exact D3.out.2.2; exact (oneX (⟨⟨1, y, ⟨#[]⟩⟩, .nil⟩ : X) (.slice Option.none 0 0 : Value) rfl); intro W hW; have HW := hid (close rfl hbN D3.out.2.2 (EV.nil _ _ _ _) D3.out.1 D3.out.2.1 hW); clear hW)
        obtain ⟨rg, g1, g2, g3⟩ := HW.out
        have hlv := run_loadVar_mid W w.heap.size 0 _ _ _ rg Tryz.underlying43 rfl sizeIE2
        refine bodyPost_ret (v := .agg (xC ((⟨⟨1, y, ⟨#[]⟩⟩, .nil⟩ : X)) ((.slice Option.none 0 0 : Value))).toArray) ?_ rfl ⟨(⟨⟨1, y, ⟨#[]⟩⟩, .nil⟩ : X), (.slice Option.none 0 0 : Value), rfl, g1, (by have h1 := limD_pos d; have h1z := limD_pos 0; have h0 : xsize (⟨⟨1, y, ⟨#[]⟩⟩, .nil⟩ : X) = 0 := rfl; rw [h0]; omega), g2, g3⟩
        simp [results, Tryz.results74, asAddr, hlv]
      · clear h0 hk1 hk8 h2
        go_wp2_with fail
        have b2 := aB w1 (.cells (([⟨#[120]⟩, ⟨#[121]⟩, ⟨#[105]⟩, ⟨#[106]⟩, ⟨#[115]⟩] : List ByteArray).map Value.string).toArray 9)
        have hw1 : b < w1.heap.size := D1.out.1.cur.lt
        refine (l1Str_is B a len cap b w1.heap.size 5 5 (fun z => z.size ≤ 1) _ (D1.out.1.later b2) (by omega) (by omega) (by omega) (fun j hj => strs_cell w1 _ _ okNames5 _ rfl j hj)).mono ?_
        rintro e w2 ⟨y, rfl, hy, d2, wr2⟩
        have D2 := hid (And.intro d2 (And.intro (D1.out.2.1.trans ((Wr.of_below b2).trans wr2)) (there_wr (there_later D1.out.2.2 b2) wr2 (by omega))))
        have HY := hid hy
        clear d2 wr2 D1 b2 hy hw1
        go_wp2_with fail
        refine (l3Var_is y _).mono ?_
        rintro e w3 ⟨rfl, hb3⟩
        have D3 := hid (And.intro (D2.out.1.later hb3) (And.intro (D2.out.2.1.trans (.of_below hb3)) (there_later D2.out.2.2 hb3)))
        clear hb3 D2
        go_wp2_with (refine sA rfl 43 _ _ rfl _ _ _ rfl rfl ?htv3 sizeIE2 ?hov3 ?_; exact D3.out.2.2; exact (oneX (⟨⟨2, 0, y⟩, .nil⟩ : X) (.slice Option.none 0 0 : Value) rfl); intro W hW; have HW := hid (close rfl hbN D3.out.2.2 (EV.nil _ _ _ _) D3.out.1 D3.out.2.1 hW); clear hW)
        obtain ⟨rg, g1, g2, g3⟩ := HW.out
        have hlv := run_loadVar_mid W w.heap.size 0 _ _ _ rg Tryz.underlying43 rfl sizeIE2
        refine bodyPost_ret (v := .agg (xC ((⟨⟨2, 0, y⟩, .nil⟩ : X)) ((.slice Option.none 0 0 : Value))).toArray) ?_ rfl ⟨(⟨⟨2, 0, y⟩, .nil⟩ : X), (.slice Option.none 0 0 : Value), rfl, g1, (by have h1 := limD_pos d; have h1z := limD_pos 0; have h2 := HY.out; have h0 : xsize (⟨⟨2, 0, y⟩, .nil⟩ : X) = y.size := rfl; rw [h0]; omega), g2, g3⟩
        simp [results, Tryz.results74, asAddr, hlv]
  · have hd0 : ¬ (d : Int) ≤ 0 := by omega
    have Hd1 : Hid (1 ≤ d) := show 1 ≤ d by omega
    have HLim : Hid (limD d = 2 * limD (d - 1) + 4) := show limD d = _ by
      obtain ⟨d', rfl⟩ : ∃ d', d = d' + 1 := ⟨d - 1, by omega⟩
      rfl
    obtain rfl | rfl | rfl | h4 : k = 1 ∨ k = 2 ∨ k = 3 ∨ 4 ≤ k := by omega
    · clear h0 hk1 hk8
      go_wp2_with fail
      refine (l1Below_is B a len cap b 10 _ D1.out.1 (by omega)).mono ?_
      rintro e w2 ⟨y, rfl, _, d2, wr2⟩
      have D2 := hid (And.intro d2 (And.intro (D1.out.2.1.trans wr2) (there_wr D1.out.2.2 wr2 (by omega))))
      clear d2 wr2 D1
      go_wp2_with fail
      refine (l3Num_is y _).mono ?_
      rintro e w3 ⟨rfl, hb3⟩
      have D3 := hid (And.intro (D2.out.1.later hb3) (And.intro (D2.out.2.1.trans (.of_below hb3)) (there_later D2.out.2.2 hb3)))
      clear hb3 D2
      go_wp2_with (refine sA rfl 43 _ _ rfl _ _ _ rfl rfl ?htn4 sizeIE2 ?hon4 ?_; exact D3.out.2.2; exact (oneX (⟨⟨1, y, ⟨#[]⟩⟩, .nil⟩ : X) (.slice Option.none 0 0 : Value) rfl); intro W hW; have HW := hid (close rfl hbN D3.out.2.2 (EV.nil _ _ _ _) D3.out.1 D3.out.2.1 hW); clear hW)
      obtain ⟨rg, g1, g2, g3⟩ := HW.out
      have hlv := run_loadVar_mid W w.heap.size 0 _ _ _ rg Tryz.underlying43 rfl sizeIE2
      refine bodyPost_ret (v := .agg (xC ((⟨⟨1, y, ⟨#[]⟩⟩, .nil⟩ : X)) ((.slice Option.none 0 0 : Value))).toArray) ?_ rfl ⟨(⟨⟨1, y, ⟨#[]⟩⟩, .nil⟩ : X), (.slice Option.none 0 0 : Value), rfl, g1, (by have h1 := limD_pos d; have h1z := limD_pos 0; have h0 : xsize (⟨⟨1, y, ⟨#[]⟩⟩, .nil⟩ : X) = 0 := rfl; rw [h0]; omega), g2, g3⟩
      simp [results, Tryz.results74, asAddr, hlv]
    · clear h0 hk1 hk8
      go_wp2_with fail
      have b2 := aB w1 (.cells (([⟨#[120]⟩, ⟨#[121]⟩, ⟨#[105]⟩, ⟨#[106]⟩, ⟨#[115]⟩] : List ByteArray).map Value.string).toArray 9)
      have hw1 : b < w1.heap.size := D1.out.1.cur.lt
      refine (l1Str_is B a len cap b w1.heap.size 5 5 (fun z => z.size ≤ 1) _ (D1.out.1.later b2) (by omega) (by omega) (by omega) (fun j hj => strs_cell w1 _ _ okNames5 _ rfl j hj)).mono ?_
      rintro e w2 ⟨y, rfl, hy, d2, wr2⟩
      have D2 := hid (And.intro d2 (And.intro (D1.out.2.1.trans ((Wr.of_below b2).trans wr2)) (there_wr (there_later D1.out.2.2 b2) wr2 (by omega))))
      have HY := hid hy
      clear d2 wr2 D1 b2 hy hw1
      go_wp2_with fail
      refine (l3Var_is y _).mono ?_
      rintro e w3 ⟨rfl, hb3⟩
      have D3 := hid (And.intro (D2.out.1.later hb3) (And.intro (D2.out.2.1.trans (.of_below hb3)) (there_later D2.out.2.2 hb3)))
      clear hb3 D2
      go_wp2_with (refine sA rfl 43 _ _ rfl _ _ _ rfl rfl ?htv5 sizeIE2 ?hov5 ?_; exact D3.out.2.2; exact (oneX (⟨⟨2, 0, y⟩, .nil⟩ : X) (.slice Option.none 0 0 : Value) rfl); intro W hW; have HW := hid (close rfl hbN D3.out.2.2 (EV.nil _ _ _ _) D3.out.1 D3.out.2.1 hW); clear hW)
      obtain ⟨rg, g1, g2, g3⟩ := HW.out
      have hlv := run_loadVar_mid W w.heap.size 0 _ _ _ rg Tryz.underlying43 rfl sizeIE2
      refine bodyPost_ret (v := .agg (xC ((⟨⟨2, 0, y⟩, .nil⟩ : X)) ((.slice Option.none 0 0 : Value))).toArray) ?_ rfl ⟨(⟨⟨2, 0, y⟩, .nil⟩ : X), (.slice Option.none 0 0 : Value), rfl, g1, (by have h1 := limD_pos d; have h1z := limD_pos 0; have h2 := HY.out; have h0 : xsize (⟨⟨2, 0, y⟩, .nil⟩ : X) = y.size := rfl; rw [h0]; omega), g2, g3⟩
      simp [results, Tryz.results74, asAddr, hlv]
    · clear h0 hk1 hk8
      go_wp2_with fail
      have b2 := aB w1 (.cells (([⟨#[97]⟩, ⟨#[98]⟩] : List ByteArray).map Value.string).toArray 9)
      have hw1 : b < w1.heap.size := D1.out.1.cur.lt
      refine (l1Str_is B a len cap b w1.heap.size 2 2 (fun z => z.size ≤ 1) _ (D1.out.1.later b2) (by omega) (by omega) (by omega) (fun j hj => strs_cell w1 _ _ okNames2 _ rfl j hj)).mono ?_
      rintro e w2 ⟨y, rfl, hy, d2, wr2⟩
      have D2 := hid (And.intro d2 (And.intro (D1.out.2.1.trans ((Wr.of_below b2).trans wr2)) (there_wr (there_later D1.out.2.2 b2) wr2 (by omega))))
      have HY := hid hy
      clear d2 wr2 D1 b2 hy hw1
      go_wp2_with fail
      refine (Hih.out Hd1.out _ D2.out.1).mono ?_
      rintro e w3 ⟨x3, u3, rfl, g3, s3, d3, wr3⟩
      have hN3 : w.heap.size + 1 ≤ w2.heap.size := lt_there D2.out.2.2
      have D3 := hid (And.intro d3 (And.intro (D2.out.2.1.trans wr3) (there_wr D2.out.2.2 wr3 (by omega))))
      have G3 := hid (And.intro (g3.lower hN3) s3)
      have hw3 : w.heap.size + 1 ≤ w3.heap.size := lt_there D3.out.2.2
      clear d3 wr3 D2 g3 s3 hN3
      go_wp2_with fail
      refine (l3At_is y x3 (w.heap.size + 1) _ u3 G3.out.1 hw3).mono ?_
      rintro e w4 ⟨u4, rfl, g4, hb4⟩
      have D4 := hid (And.intro (D3.out.1.later hb4) (And.intro (D3.out.2.1.trans (.of_below hb4)) (there_later D3.out.2.2 hb4)))
      have G4 := hid g4
      clear hb4 D3 g4 hw3
      go_wp2_with (refine sA rfl 43 _ _ rfl _ _ _ rfl rfl ?hta6 sizeIE2 ?hoa6 ?_; exact D4.out.2.2; exact (oneX (⟨⟨3, 0, y⟩, .node 0 0 x3.h x3.l .nil⟩ : X) u4 G4.out.isOne); intro W hW; have HW := hid (close rfl hbN D4.out.2.2 G4.out D4.out.1 D4.out.2.1 hW); clear hW)
      obtain ⟨rg, g1, g2, g3⟩ := HW.out
      have hlv := run_loadVar_mid W w.heap.size 0 _ _ _ rg Tryz.underlying43 rfl sizeIE2
      refine bodyPost_ret (v := .agg (xC ((⟨⟨3, 0, y⟩, .node 0 0 x3.h x3.l .nil⟩ : X)) (u4)).toArray) ?_ rfl ⟨(⟨⟨3, 0, y⟩, .node 0 0 x3.h x3.l .nil⟩ : X), u4, rfl, g1, (by have h1 := HY.out; have h2 := G3.out.2; rw [HLim.out]; simp only [xsize, esize] at h2 ⊢; omega), g2, g3⟩
      simp [results, Tryz.results74, asAddr, hlv]
    · have e1 : (k == 1) = false := int_ne (by omega)
      have e2 : (k == 2) = false := int_ne (by omega)
      have e3 : (k == 3) = false := int_ne (by omega)
      clear h0 hk1 hk8 h4
      go_wp2_with fail
      refine (Hih.out Hd1.out _ D1.out.1).mono ?_
      rintro e w2 ⟨x2, u2, rfl, g2, s2, d2, wr2⟩
      have hN2 : w.heap.size + 1 ≤ w1.heap.size := lt_there D1.out.2.2
      have D2 := hid (And.intro d2 (And.intro (D1.out.2.1.trans wr2) (there_wr D1.out.2.2 wr2 (by omega))))
      have G2 := hid (And.intro (g2.lower hN2) s2)
      have i2 := g2.isOne
      clear d2 wr2 D1 g2 s2 hN2
      go_wp2_with (refine sA rfl 43 _ _ rfl _ _ _ rfl rfl ?hp7 sizeIE2 ?hq7 ?_; exact (newthere4 w2 _); exact (oneX x2 u2 i2); intro W6 hW; have HW6 := hid (newblk4 x2 u2 hW); clear hW)
      obtain ⟨n6, hn6⟩ : ∃ n, w2.heap.size = n := ⟨_, rfl⟩
      have hbn6 : b < n6 := by have := D2.out.1.cur.lt; omega
      have hnn6 : w.heap.size < n6 := by have := lt_there D2.out.2.2; omega
      have D6 := hid (And.intro (D2.out.1.later HW6.out.2) (And.intro (D2.out.2.1.trans (.of_below HW6.out.2)) (there_later D2.out.2.2 HW6.out.2)))
      have R6 := hid HW6.out.1
      have G6 := hid (G2.out.1.later HW6.out.2)
      rw [hn6] at R6 ⊢
      clear HW6 D2 i2 hn6
      have bd : Below W6.heap.size W6 W6.drew := (Below.refl _ W6).drew
      have Dd := D6.out.1.later bd
      have hwd : w.heap.size + 1 ≤ W6.drew.heap.size := lt_there D6.out.2.2
      have hdp := Hd1.out
      refine wp_region_held_drew (S := fun w' => w'.rangeAt n6 0 (xC x2 u2) ∧ w'.there w.heap.size 0 4) (by kernel_rfl) ⟨rangeAt_later R6.out bd, there_later D6.out.2.2 bd⟩ (fun hHeld => ?_)
      refine wpAnyH_take (i := 0) (v := .int .i64 k) rfl (by kernel_rfl) (by kernel_rfl) (by kernel_rfl) (fun _ _ _ => id) (Or.inl ⟨by rfl, ?yp70⟩) hHeld ?_
      case yp70 => intro w hSw; go_simp
      simp only [Act.put, zp]
      refine wpAnyH_take (i := 1) (v := .agg (xC x2 u2).toArray) rfl (by kernel_rfl) (by kernel_rfl) (by kernel_rfl) (fun _ _ _ => id) (yieldsIf_load_mid (by rfl) 43 _ rfl (n6) (0) rfl (xC x2 u2) _ (fun w h => h.1) Tryz.underlying43 rfl sizeIE2) hHeld ?_
      simp only [Act.put, zp]
      refine wpAnyH_take (i := 2) (v := .pointer (some ⟨b, 0, none⟩)) rfl (by kernel_rfl) (by kernel_rfl) (by kernel_rfl) (fun _ _ _ => id) (Or.inl ⟨by rfl, ?yp72⟩) hHeld ?_
      case yp72 => intro w hSw; go_simp
      simp only [Act.put, zp]
      refine wpAnyH_take (i := 3) (v := .int .i64 (d : Int)) rfl (by kernel_rfl) (by kernel_rfl) (by kernel_rfl) (fun _ _ _ => id) (Or.inl ⟨by rfl, ?yp73⟩) hHeld ?_
      case yp73 => intro w hSw; go_simp
      simp only [Act.put, zp]
      refine wpAnyH_take (i := 4) (v := .int .i64 ((d : Int) - 1)) rfl (by kernel_rfl) (by kernel_rfl) (by kernel_rfl) (fun _ _ _ => id) (Or.inl ⟨by rfl, ?yp74⟩) hHeld ?_
      case yp74 => intro w hSw; (go_simp; try (rw [IntKind.wrap_i64]); try omega)
      simp only [Act.put, zp]
      refine wpAnyH_ready (rs := [5]) (by kernel_rfl) (by simp) ?_
      refine AllReadyH.cons rfl (fun K hK => ?_) AllReadyH.nil
      rw [if_pos (by rfl)]
      simp only [zq]
      go_wp2_with fail
      refine (Hih.out Hd1.out _ Dd).mono ?_
      rintro e w7 ⟨x7, u7, rfl, g7, s7, d7, wr7⟩
      go_wp2_with fail
      refine hK.out _ _ (⟨range_wr hHeld.1 wr7 (by omega), there_wr hHeld.2 wr7 (by omega)⟩) (fun hHeld => ?_)
      have h27 : EV w7 (w.heap.size + 1) x2.l u2 := (G6.out.later bd).wr wr7 (by omega)
      have h77 : EV w7 (w.heap.size + 1) x7.l u7 := g7.lower hwd
      have hw7 : w.heap.size + 1 ≤ w7.heap.size := Nat.le_trans hwd wr7.size
      refine wpAnyH_ready (rs := [6]) (by kernel_rfl) (by simp) ?_
      refine AllReadyH.cons rfl (fun K hK => ?_) AllReadyH.nil
      rw [if_pos (by rfl)]
      simp only [zq]
      go_wp2_with fail
      refine (l3Two_is k x2 x7 (w.heap.size + 1) _ u2 u7 h27 h77 hw7).mono ?_
      rintro e w8 ⟨u8, rfl, g8, hb8⟩
      go_wp2_with fail
      refine hK.out _ _ (⟨rangeAt_later hHeld.1 hb8, there_later hHeld.2 hb8⟩) (fun hHeld => ?_)
      have D8 : Hid (Dw B a len cap b w8 ∧ Wr b w w8) := ⟨d7.later hb8, (D6.out.2.1.trans (.of_below bd)).trans (wr7.trans (.of_below hb8))⟩
      have G8 := hid (And.intro g8 s7)
      have TH := hHeld.2
      refine wpAnyH_ready (rs := [7]) (by kernel_rfl) (by simp) ?_
      refine AllReadyH.cons rfl (fun K hK => ?_) AllReadyH.nil
      rw [if_pos (by rfl)]
      simp only [zq]
      refine wp_store_mid 43 _ _ rfl _ _ _ rfl rfl ?hs7 sizeIE2 ?hu7 ?_
      case hs7 => exact TH
      case hu7 => exact oneX (⟨⟨k, 0, ⟨#[]⟩⟩, .node 0 0 x2.h x2.l (.node 0 0 x7.h x7.l .nil)⟩ : X) u8 g8.isOne
      obtain ⟨W, hW⟩ : ∃ W, w8.setCells w.heap.size 0 (xC (⟨⟨k, 0, ⟨#[]⟩⟩, .node 0 0 x2.h x2.l (.node 0 0 x7.h x7.l .nil)⟩ : X) u8) = W := ⟨_, rfl⟩
      have HC := hid (close rfl hbN TH g8 D8.out.1 D8.out.2 hW)
      refine hK.out _ _ ⟨?_, World.there_setCells TH _ _ _⟩ (fun hHeld => ?_)
      · exact World.rangeAt_setCells_apart hHeld.1 _ _ _ (.inl (by omega))
      simp only [Act.put, zp]
      refine wpAnyH_done (by kernel_rfl) ?_ _
      obtain ⟨rg, q1, q2, q3⟩ := HC.out
      have hlv := run_loadVar_mid W w.heap.size 0 _ _ _ rg Tryz.underlying43 rfl sizeIE2
      have HQ := hid (And.intro q1 (And.intro q2 q3))
      have HW := hid hW
      have HLV := hid hlv
      clear hHeld rg q1 q2 q3 hlv TH HC hW
      go_wp2
      refine bodyPost_ret (v := .agg (xC (⟨⟨k, 0, ⟨#[]⟩⟩, .node 0 0 x2.h x2.l (.node 0 0 x7.h x7.l .nil)⟩ : X) u8).toArray) ?_ rfl ⟨_, u8, rfl, ?_, ?_, ?_, ?_⟩
      · have e := HLV.out
        rw [← HW.out] at e
        simp [results, Tryz.results74, asAddr, e]
      · have e := HQ.out.1; rw [← HW.out] at e; exact e
      · have h1 := G2.out.2; have h2 := G8.out.2; rw [HLim.out]; simp only [xsize, esize] at h1 h2 ⊢
        have h0 : (⟨#[]⟩ : ByteArray).size = 0 := rfl
        omega
      · have e := HQ.out.2.1; rw [← HW.out] at e; exact e
      · have e := HQ.out.2.2; rw [← HW.out] at e; exact e
theorem l3Draw_all (B : Nat) (a : Option Addr) (len cap b : Nat) : ∀ (d : Nat), d ≤ 20 → ∀ (w : World), Dw B a len cap b w → Calls Tryz.prog 74 #[.pointer (some ⟨b, 0, none⟩), .int .i64 (d : Int)] w (Drawn B a len cap b (limD d) w)
  | 0, hd, w, h => l3Draw_step 0 hd B a len cap b (fun h => absurd h (by omega)) w h
  | d + 1, hd, w, h => l3Draw_step (d + 1) hd B a len cap b (fun _ w h => by
      rw [show ((d + 1 : Nat) : Int) - 1 = (d : Int) by omega]
      exact l3Draw_all B a len cap b d (by omega) w h) w h
end Go.Proofs.YtpinockfakndlaaGreat
