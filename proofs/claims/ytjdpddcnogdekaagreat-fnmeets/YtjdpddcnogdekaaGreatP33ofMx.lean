/-
  Texts in one: CurBase, CurText.
-/
import Derived.Test.YtjdpddcnogdekaaGreatRows
import Derived.WalkKit
import Derived.WalkLawsBesides
import Derived.Laws.BitsLemmas
import Derived.Lib.SmallJoins
import Derived.Lib.Hide
import Derived.Deep.QuietTactic
import Derived.BigQuiet
/-
  The draw's cursor: a block of three cells (the bytes, how many were read, a number that is mixed). One step of it answers a byte and turns nothing but that block.
-/
namespace Go.Proofs.YtjdpddcnogdekaaGreat
open Go.RowKit Go.Joins

theorem i64_and255 (n : Int) : bits .and .i64 n 255 = n % 256 := by
  have h8 : (BitVec.ofInt 64 255).toNat = 2 ^ 8 - 1 := by decide
  have key : (BitVec.ofInt 64 n &&& BitVec.ofInt 64 255).toNat = (n % ((2 ^ 64 : Nat) : Int)).toNat % 2 ^ 8 := by
    rw [BitVec.toNat_and, BitVec.toNat_ofInt, h8, Nat.and_two_pow_sub_one_eq_mod]
  show IntKind.i64.wrap ((BitVec.ofInt 64 n &&& BitVec.ofInt 64 255).toNat : Nat) = n % 256
  rw [key, IntKind.wrap_i64]
  omega

/-- Nothing but block b has turned. -/
structure Touch (b : Nat) (w w' : World) : Prop where
  os : w'.os = w.os
  tape : w'.tape = w.tape
  output : w'.output = w.output
  size : w'.heap.size = w.heap.size
  block : ∀ k, k ≠ b → w'.heap[k]? = w.heap[k]?
theorem Touch.refl (b : Nat) (w : World) : Touch b w w := ⟨rfl, rfl, rfl, rfl, fun _ _ => rfl⟩
theorem Touch.trans {b : Nat} {u v w : World} (h : Touch b u v) (k : Touch b v w) : Touch b u w :=
  ⟨k.os.trans h.os, k.tape.trans h.tape, k.output.trans h.output, k.size.trans h.size, fun i hi => (k.block i hi).trans (h.block i hi)⟩
theorem Touch.drewN {b : Nat} {u w : World} (h : Touch b u w) (n : Nat) : Touch b u (w.drewN n) := ⟨h.os, h.tape, h.output, h.size, h.block⟩
theorem Touch.setCell {b : Nat} {u w : World} (h : Touch b u w) (o : Nat) (v : Value) : Touch b u (w.setCell ⟨b, o, none⟩ v) :=
  h.trans ⟨rfl, rfl, rfl, by simp [World.setCell], fun k hk => Below.heap_setCell _ _ _ _ hk⟩
theorem Touch.below {b B : Nat} {u w : World} (h : Touch b u w) (hB : B ≤ b) : Below B u w := ⟨h.os, h.tape, h.output, by rw [h.size]; exact Nat.le_refl _, fun k hk => h.block k (by omega)⟩

/-- The bytes that came in: each cell of the slice is a byte, in a block below B. -/
def CodeIs (B : Nat) (W : World) (a : Option Addr) (len : Nat) : Prop :=
  ∀ j, j < len → ∃ cb off z, a = some ⟨cb, off, none⟩ ∧ cb < B ∧ W.cell? ⟨cb, off + j, none⟩ = some (.int .u8 z) ∧ 0 ≤ z ∧ z ≤ 255
theorem CodeIs.later {B : Nat} {W w : World} {a : Option Addr} {len : Nat} (h : CodeIs B W a len) (hb : Below B W w) : CodeIs B w a len := fun j hj => by
  obtain ⟨cb, off, z, e, hc, hz, z0, z1⟩ := h j hj
  exact ⟨cb, off, z, e, hc, by rw [hb.cell hc]; exact hz, z0, z1⟩

/-- The cursor lies in block b. -/
def Cur (a : Option Addr) (len cap b : Nat) (w : World) : Prop :=
  ∃ (k : Nat) (h : Int), k ≤ len ∧ w.heap[b]? = some (.cells #[.slice a len cap, .int .i64 k, .int .i64 h] 82 (0, 0))

theorem cur_mix {a : Option Addr} {len cap b k : Nat} {h : Int} {w : World} (hk : k ≤ len) (hb : w.heap[b]? = some (.cells #[.slice a len cap, .int .i64 k, .int .i64 h] 82 (0, 0))) (x : Int) (n : Nat) :
    Cur a len cap b ((w.setCell ⟨b, 2, none⟩ (.int .i64 x)).drewN n) := ⟨k, x, hk, by
  show (w.setCell ⟨b, 2, none⟩ (.int .i64 x)).heap[b]? = _
  rw [block_setCell hb]; rfl⟩
theorem cur_mix2 {a : Option Addr} {len cap b k : Nat} {h : Int} {w : World} (hk : k ≤ len) (hb : w.heap[b]? = some (.cells #[.slice a len cap, .int .i64 k, .int .i64 h] 82 (0, 0))) (x : Int) (n m : Nat) :
    Cur a len cap b (((w.setCell ⟨b, 2, none⟩ (.int .i64 x)).drewN n).drewN m) := cur_mix hk hb x n
theorem cur_next {a : Option Addr} {len cap b k : Nat} {h : Int} {w : World} (hk : k < len) (hb : w.heap[b]? = some (.cells #[.slice a len cap, .int .i64 k, .int .i64 h] 82 (0, 0))) (x : Int) (n : Nat) :
    Cur a len cap b (((w.setCell ⟨b, 2, none⟩ (.int .i64 x)).setCell ⟨b, 1, none⟩ (.int .i64 ((k : Int) + 1))).drewN n) := ⟨k + 1, x, hk, by
  show ((w.setCell ⟨b, 2, none⟩ (.int .i64 x)).setCell ⟨b, 1, none⟩ (.int .i64 ((k : Int) + 1))).heap[b]? = _
  rw [block_setCell (block_setCell hb _)]; rfl⟩

set_option maxHeartbeats 400000 in
theorem l1Byte (B : Nat) (a : Option Addr) (len cap b : Nat) (w : World) (hlen : len ≤ 281474976710656) (hB : B ≤ b) (hC : CodeIs B w a len) (hcur : Cur a len cap b w) :
    Calls Tryz.prog 72 #[.pointer (some ⟨b, 0, none⟩)] w fun e w' => ∃ x : Int, e = .returned (.int .i64 x) ∧ 0 ≤ x ∧ x ≤ 255 ∧ Cur a len cap b w' ∧ Touch b w w' := by
  obtain ⟨k, h, hk, hblk⟩ := hcur
  have c0 : w.cell? ⟨b, 0, none⟩ = some (.slice a len cap) := by simp [World.cell?, hblk]
  have c1 : w.cell? ⟨b, 1, none⟩ = some (.int .i64 (k : Int)) := by simp [World.cell?, hblk]
  have c2 : w.cell? ⟨b, 2, none⟩ = some (.int .i64 h) := by simp [World.cell?, hblk]
  have f1 : w.frozen? ⟨b, 1, none⟩ = false := by simp [World.frozen?, hblk]
  have f2 : w.frozen? ⟨b, 2, none⟩ = false := by simp [World.frozen?, hblk]
  have hand := i64_and255
  have Hb := Lib.hid hblk
  clear hblk
  by_cases hlt : k < len
  · obtain ⟨cb, off, z, rfl, hcb, hz, z0, z1⟩ := hC k hlt
    have hne : cb ≠ b := by omega
    go_enter Tryz.func72, Tryz.ntmps72
    go_wp2
    go_quiet (fail)
    go_wp2
    go_quiet (fail)
    go_wp2
    go_quiet (fail)
    go_wp2
    go_ret
    exact ⟨_, rfl, by omega, by omega, cur_next hlt Hb.out _ _, (((Touch.refl b w).setCell 2 _).setCell 1 _).drewN _⟩
  · go_enter Tryz.func72, Tryz.ntmps72
    go_wp2
    go_quiet (fail)
    go_wp2
    go_quiet (fail)
    go_wp2
    go_ret
    exact ⟨_, rfl, by omega, by omega, cur_mix2 hk Hb.out _ _ _, (((Touch.refl b w).setCell 2 _).drewN _).drewN _⟩

theorem cur_new (a : Option Addr) (len cap : Nat) (x : Int) (w : World) : Cur a len cap w.heap.size (w.alloc (.cells #[.slice a len cap, .int .i64 0, .int .i64 x] 82)) :=
  ⟨0, x, Nat.zero_le _, by show (w.heap.push _)[w.heap.size]? = _; simp⟩
theorem Cur.later {a : Option Addr} {len cap b : Nat} {w w' : World} (h : Cur a len cap b w) (e : w'.heap[b]? = w.heap[b]?) : Cur a len cap b w' := by
  obtain ⟨k, x, hk, hb⟩ := h
  exact ⟨k, x, hk, e.trans hb⟩
theorem Cur.lt {a : Option Addr} {len cap b : Nat} {w : World} (h : Cur a len cap b w) : b < w.heap.size := by
  obtain ⟨k, x, hk, hb⟩ := h
  exact (Array.getElem?_eq_some_iff.1 hb).1
set_option maxHeartbeats 400000 in
theorem l1New (B : Nat) (a : Option Addr) (len cap : Nat) (w : World) (hlen : len ≤ 281474976710656) (hC : CodeIs B w a len) :
    Calls Tryz.prog 23 #[.slice a len cap] w fun e w' => e = .returned (.pointer (some ⟨w.heap.size, 0, none⟩)) ∧ Cur a len cap w.heap.size w' ∧ Below w.heap.size w w' := by
  go_enter Tryz.func23, Tryz.ntmps23
  go_wp2
  go_loop [3, 4] (fun h i => ∃ (x : Int) (k : Nat), h = .int .i64 x ∧ i = .int .i64 k ∧ k ≤ len) (fun _ i => len - (intOf i).toNat)
  case atStart => exact ⟨_, 0, rfl, rfl, by omega⟩
  case round =>
    obtain ⟨x, k, rfl, rfl, hk⟩ := hrel
    by_cases hlt : k < len ∧ k < 4000
    · obtain ⟨hlt, h4'⟩ := hlt
      have h4 : (k : Int) < 4000 := by omega
      clear h4'
      obtain ⟨cb, off, z, rfl, hcb, hz, z0, z1⟩ := hC k hlt
      go_wp2
      go_round
      case rel => exact ⟨_, k + 1, rfl, by go_num, by omega⟩
      case measure => simp [intOf]; omega
    · by_cases hlt2 : k < len
      · obtain ⟨y, hy⟩ : ∃ y : Int, (k : Int) = y := ⟨_, rfl⟩
        have h4 : (4000 : Int) ≤ y := by omega
        rw [hy]
        have h5 : y < (len : Int) := by omega
        clear hlt hlt2 hk hy
        go_wp2
        go_ret
        exact ⟨rfl, cur_new _ _ _ _ _, (Below.refl _ _).alloc (Nat.le_refl _) _⟩
      · clear hlt
        go_wp2
        go_ret
        exact ⟨rfl, cur_new _ _ _ _ _, (Below.refl _ _).alloc (Nat.le_refl _) _⟩

theorem l1Below (B : Nat) (a : Option Addr) (len cap b : Nat) (n : Int) (w : World) (hlen : len ≤ 281474976710656) (hB : B ≤ b) (hC : CodeIs B w a len) (hcur : Cur a len cap b w) (hn0 : 0 < n) :
    Calls Tryz.prog 52 #[.pointer (some ⟨b, 0, none⟩), .int .i64 n] w fun e w' => ∃ x : Int, e = .returned (.int .i64 x) ∧ 0 ≤ x ∧ x < n ∧ Cur a len cap b w' ∧ Touch b w w' := by
  have hn1 : n ≠ 0 := by omega
  by_cases h256 : n ≤ 256
  · go_enter Tryz.func52, Tryz.ntmps52
    go_wp2_with (go_at_call 72; refine (l1Byte B a len cap b _ hlen hB hC hcur).mono ?_; rintro e w1 ⟨x, rfl, x0, x1, hc1, ht1⟩)
    go_ret
    exact ⟨_, rfl, Int.emod_nonneg _ hn1, Int.emod_lt_of_pos _ hn0, hc1, ht1⟩
  · go_enter Tryz.func52, Tryz.ntmps52
    go_wp2_with fail
    refine (l1Byte B a len cap b _ hlen hB hC hcur).mono ?_
    rintro e w1 ⟨x, rfl, x0, x1, hc1, ht1⟩
    have hC1 := hC.later (ht1.below hB)
    go_wp2_with fail
    refine (l1Byte B a len cap b _ hlen hB hC1 hc1).mono ?_
    rintro e w2 ⟨y, rfl, y0, y1, hc2, ht2⟩
    have hC2 := hC1.later (ht2.below hB)
    go_wp2_with fail
    refine (l1Byte B a len cap b _ hlen hB hC2 hc2).mono ?_
    rintro e w3 ⟨z, rfl, z0, z1, hc3, ht3⟩
    go_wp2
    go_ret
    exact ⟨_, rfl, Int.emod_nonneg _ hn1, Int.emod_lt_of_pos _ hn0, hc3, (ht1.trans ht2).trans ht3⟩

theorem l1Once (B : Nat) (a : Option Addr) (len cap b : Nat) (n : Int) (w : World) (hlen : len ≤ 281474976710656) (hB : B ≤ b) (hC : CodeIs B w a len) (hcur : Cur a len cap b w) (hn0 : 0 < n) :
    Calls Tryz.prog 25 #[.pointer (some ⟨b, 0, none⟩), .int .i64 n] w fun e w' => ∃ x : Bool, e = .returned (.bool x) ∧ Cur a len cap b w' ∧ Touch b w w' := by
  go_enter Tryz.func25, Tryz.ntmps25
  go_wp2_with (go_at_call 52; refine (l1Below B a len cap b _ _ hlen hB hC hcur hn0).mono ?_; rintro e w1 ⟨x, rfl, x0, x1, hc1, ht1⟩)
  go_ret
  exact ⟨_, rfl, hc1, ht1⟩
end Go.Proofs.YtjdpddcnogdekaaGreat
/-
  One of a list of texts, drawn by the cursor; laws.at and laws.big.
-/
namespace Go.Proofs.YtjdpddcnogdekaaGreat
open Go.RowKit Go.Joins
theorem CodeIs.mono {B B' : Nat} {W : World} {a : Option Addr} {len : Nat} (h : CodeIs B W a len) (hB : B ≤ B') : CodeIs B' W a len := fun j hj => by
  obtain ⟨cb, off, z, e, hc, hz, z0, z1⟩ := h j hj
  exact ⟨cb, off, z, e, by omega, hz, z0, z1⟩
theorem big_is (a : Option Addr) (len cap : Nat) (w : World) : Calls Tryz.prog 5 #[.slice a len cap] w fun e w' => e = .returned (.bool (decide ((1048576 : Int) < (len : Int)))) ∧ w = w' := by
  go_enter Tryz.func5, Tryz.ntmps5
  go_wp2
  go_ret
  exact ⟨rfl, rfl⟩
theorem l1Str (B : Nat) (a : Option Addr) (len cap b lb n c : Nat) (q : ByteArray → Prop) (w : World) (hlen : len ≤ 281474976710656) (hB : B ≤ b) (hC : CodeIs B w a len) (hcur : Cur a len cap b w)
    (hn0 : 0 < n) (hn1 : n ≤ 1048576) (hlb : lb ≠ b) (hl : ∀ j, j < n → ∃ z : ByteArray, w.cell? ⟨lb, j, none⟩ = some (.string z) ∧ q z) :
    Calls Tryz.prog 50 #[.pointer (some ⟨b, 0, none⟩), .slice (some ⟨lb, 0, none⟩) n c] w fun e w' => ∃ x : ByteArray, e = .returned (.string x) ∧ q x ∧ Cur a len cap b w' ∧ Touch b w w' := by
  go_enter Tryz.func50, Tryz.ntmps50
  go_wp2_with fail
  refine (l1Below B a len cap b _ _ hlen hB hC hcur (by omega)).mono ?_
  rintro e w1 ⟨x, rfl, x0, x1, hc1, ht1⟩
  obtain ⟨y, rfl⟩ := Int.eq_ofNat_of_zero_le x0
  have hy : y < n := by omega
  obtain ⟨z, hz, qz⟩ := hl y hy
  have hz1 : w1.cell? ⟨lb, y, none⟩ = some (.string z) := by rw [World.cell?_of_block (w := w) (ht1.block lb hlb)]; exact hz
  go_wp2
  go_ret
  exact ⟨z, rfl, qz, hc1, ht1⟩
end Go.Proofs.YtjdpddcnogdekaaGreat
