/-
  Texts in one: AstAll, CurBase.
-/
import Derived.Test.YtfacenfiocdbgaaP22ofFnAffs
import Derived.Test.YtfacenfiocdbgaaP23ofFnAffs
import Derived.Deep.AppendLies
import Derived.Test.YtfacenfiocdbgaaRows
import Derived.WalkKit
import Derived.WalkLawsBesides
import Derived.Laws.BitsLemmas
import Derived.Lib.SmallJoins
import Derived.Lib.Hide
import Derived.Deep.QuietTactic
import Derived.BigQuiet
/-
  The contract of the landed code's sameAll over expressions, and of its SameExp.
-/
namespace Go.Proofs.Ytfacenfiocdbgaa
open Go.RowKit Go.Lib
set_option linter.unusedSimpArgs false
set_option linter.unusedVariables false

/-- What is left to do: two rows of expressions each, in their slices. -/
abbrev TdE := List ((EF × EF) × (Value × Value))
def flatE (td : TdE) : List Value := td.flatMap (fun p => [p.2.1, p.2.2])
def sumE : TdE → Nat
  | [] => 0
  | p :: r => enodes p.1.1 + sumE r
def allE (td : TdE) : Bool := td.all (fun p => esame p.1.1 p.1.2)
theorem flatE_length (td : TdE) : (flatE td).length = td.length * 2 := by
  induction td with
  | nil => rfl
  | cons p r ih => simp only [flatE, List.flatMap_cons, List.length_append, List.length_cons, List.length_nil] at ih ⊢; omega
theorem flatE_app (a b : TdE) : flatE (a ++ b) = flatE a ++ flatE b := by simp [flatE]
theorem sumE_app (a b : TdE) : sumE (a ++ b) = sumE a + sumE b := by
  induction a with
  | nil => simp [sumE]
  | cons p a ih => simp only [List.cons_append, sumE, ih]; omega
theorem allE_app (a b : TdE) : allE (a ++ b) = (allE a && allE b) := by simp [allE]
/-- The state between two rounds. -/
structure SamS (w : World) (A : Bool) (td : TdE) (m B : Nat) : Prop where
  all : ∀ p ∈ td, EV w 0 p.1.1 p.2.1 ∧ EV w 0 p.1.2 p.2.2
  ans : A = allE td
  len : td.length + sumE td = m
  big : m ≤ B
/-- Within a round. -/
structure SamR (w : World) (A : Bool) (td : TdE) (m B : Nat) (R S G : EF) (k b1 o1 b2 o2 : Nat) : Prop where
  all : ∀ p ∈ td, EV w 0 p.1.1 p.2.1 ∧ EV w 0 p.1.2 p.2.2
  ans : A = (allE td && esame R S)
  len : td.length + sumE td + enodes R + 1 = m
  big : m ≤ B
  at1 : EIn w 0 R b1 (o1 + k * 4)
  at2 : EIn w 0 S b2 (o2 + k * 4)
  num : k + elen R = elen G
  eqn : elen R = elen S
theorem SamS.pop {w : World} {A : Bool} {td : TdE} {m B b1 o1 b2 o2 : Nat} {p : (EF × EF) × (Value × Value)} (h : SamS w A (td ++ [p]) m B) (hl : elen p.1.1 = elen p.1.2) (i1 : EIn w 0 p.1.1 b1 o1) (i2 : EIn w 0 p.1.2 b2 o2) : SamR w A td m B p.1.1 p.1.2 p.1.1 0 b1 o1 b2 o2 := by
  have h1 := h.ans; have h2 := h.len
  rw [allE_app] at h1
  rw [sumE_app] at h2
  simp only [sumE, List.length_append, List.length_cons, List.length_nil] at h2
  exact ⟨fun q hq => h.all q (List.mem_append_left _ hq), by rw [h1]; simp [allE], by omega, h.big, by simpa using i1, by simpa using i2, by omega, hl⟩
theorem SamS.diff {w : World} {A : Bool} {td : TdE} {m B : Nat} {p : (EF × EF) × (Value × Value)} (h : SamS w A (td ++ [p]) m B) (hl : ¬ elen p.1.1 = elen p.1.2) : A = false := by
  rw [h.ans, allE_app]; simp [allE, esame_diff hl]
theorem SamR.stop {w : World} {A : Bool} {td : TdE} {m B p q p' q' : Nat} {h h' : EH} {l r l' r' G : EF} {k b1 o1 b2 o2 : Nat} (hr : SamR w A td m B (.node p q h l r) (.node p' q' h' l' r') G k b1 o1 b2 o2) (he : hsame h h' = false) : A = false := by
  rw [hr.ans]; simp [esame, he]
theorem SamR.push {w : World} {A : Bool} {td : TdE} {m B p q p' q' : Nat} {h h' : EH} {l r l' r' G : EF} {k b1 o1 b2 o2 : Nat} {u u' : Value} (hr : SamR w A td m B (.node p q h l r) (.node p' q' h' l' r') G k b1 o1 b2 o2) (he : hsame h h' = true) (h1 : EV w 0 l u) (h2 : EV w 0 l' u') : SamR w A (td ++ [((l, l'), (u, u'))]) m B r r' G (k + 1) b1 o1 b2 o2 := by
  have e1 := hr.ans; have e2 := hr.len; have e3 := hr.num; have e4 := hr.eqn
  simp only [enodes, elen] at e2 e3 e4
  refine ⟨fun q hq => ?_, ?_, ?_, hr.big, ?_, ?_, by omega, by omega⟩
  · rcases List.mem_append.1 hq with hq | hq
    · exact hr.all q hq
    · simp only [List.mem_cons, List.not_mem_nil, or_false] at hq; subst hq; exact ⟨h1, h2⟩
  · rw [e1, allE_app]; simp [allE, esame, he, Bool.and_assoc]
  · rw [sumE_app]; simp only [sumE, List.length_append, List.length_cons, List.length_nil]; omega
  · rw [show o1 + (k + 1) * 4 = o1 + k * 4 + 4 by omega]; exact (EIn_node.1 hr.at1).2
  · rw [show o2 + (k + 1) * 4 = o2 + k * 4 + 4 by omega]; exact (EIn_node.1 hr.at2).2
theorem SamR.done {w : World} {A : Bool} {td : TdE} {m B : Nat} {S G : EF} {k b1 o1 b2 o2 : Nat} (hr : SamR w A td m B .nil S G k b1 o1 b2 o2) : SamS w A td (m - 1) B := by
  have e1 := hr.ans; have e2 := hr.len; have e4 := hr.eqn; have e5 := hr.big
  cases S with
  | nil => simp only [enodes] at e2; exact ⟨hr.all, by rw [e1]; simp [esame], by omega, by omega⟩
  | node _ _ _ _ _ => simp only [elen] at e4; omega
/-- The world in which the first two rows lie. -/
def startE (w : World) (A C : Array Value) (t : TypeId) : World := (((w.alloc (.cells A t)).alloc (.cells C t)).alloc (.cells A t)).alloc (.cells C t)
theorem startE_is (w : World) (A C : Array Value) (t : TypeId) : (startE w A C t).rangeAt (w.heap.size + 2) 0 A.toList ∧ (startE w A C t).rangeAt (w.heap.size + 3) 0 C.toList ∧ Below w.heap.size w (startE w A C t) ∧ (startE w A C t).heap.size = w.heap.size + 4 := by
  have e : ∀ (v : World) (o : Obj), (v.alloc o).heap[v.heap.size]? = some o := fun v o => by show (v.heap.push o)[v.heap.size]? = _; simp
  have s2 : ((w.alloc (.cells A t)).alloc (.cells C t)).heap.size = w.heap.size + 2 := by simp
  have s3 : (((w.alloc (.cells A t)).alloc (.cells C t)).alloc (.cells A t)).heap.size = w.heap.size + 3 := by simp
  have q2 : (startE w A C t).heap[w.heap.size + 2]? = some (.cells A t) := by unfold startE; rw [Below.heap_alloc _ _ _ (by rw [s3]; omega), ← s2]; exact e _ _
  have q3 : (startE w A C t).heap[w.heap.size + 3]? = some (.cells C t) := by unfold startE; rw [← s3]; exact e _ _
  refine ⟨blk_range q2, blk_range q3, ?_, by unfold startE; simp⟩
  exact (((alloc_below w _).alloc (by simp) _).alloc (by rw [s2]; omega) _).alloc (by rw [s3]; omega) _
theorem new2 (w : World) (u v : Value) (t : TypeId) : ∀ j x, [u, v][j]? = some x → (w.alloc (.cells #[u, v] t)).cell? ((⟨w.heap.size, 0, Option.none⟩ : Addr).add j) = some x := by
  intro j x h
  have e : (w.alloc (.cells #[u, v] t)).heap[w.heap.size]? = some (.cells #[u, v] t (0, 0)) := by show (w.heap.push _)[w.heap.size]? = _; simp
  have e2 : ((⟨w.heap.size, 0, Option.none⟩ : Addr).add j) = ⟨w.heap.size, j, Option.none⟩ := by simp [Addr.add]; omega
  rw [e2]
  simp only [World.cell?, e]
  match j, h with
  | 0, h => simpa using h
  | 1, h => simpa using h
  | j + 2, h => simp at h
/-- What is known of the variable that holds the two rows of a round, while more is laid. -/
structure Nxt (w : World) (t : Value) (n : Nat) (vb : Value) : Prop where
  c : w.cell? ⟨n, 1, Option.none⟩ = some vb
  lt : n < w.heap.size
  ne : ∀ g, t.ownBlock = some g → g ≠ n
theorem Nxt.later {w w' : World} {t : Value} {n : Nat} {vb : Value} (h : Nxt w t n vb) (hb : Below w.heap.size w w') : Nxt w' t n vb := ⟨keeps hb h.c, Nat.lt_of_lt_of_le h.lt hb.size, h.ne⟩
theorem range_grown {w w6 : World} {r : Option Nat} {n o : Nat} {cs : List Value} (h : w.rangeAt n o cs) (hg : w.grownBy w6 r) (hne : r ≠ some n) : w6.rangeAt n o cs := fun j v hv => by
  have hc := h j v hv
  have e := hg.block n (lt_of_cellA hc) (fun e => hne e.symm)
  simp only [World.cell?, e] at hc ⊢
  exact hc
/-- One more to do. -/
theorem snocE {w1 w5 w6 : World} {g cap : Nat} {td : TdE} {t u u' : Value} {l l' : EF} {o : Obj} {e : TypeId} {n : Nat} {vb : Value} (hown : w5.ownsRow w1.heap.size e 2 t td.length (flatE td)) (hb : Below w1.heap.size w1 w5) (hg : (w5.alloc o).grownBy w6 t.ownBlock)
    (hat : t.ownBlock = some g ∨ g = w5.heap.size + 1) (hx : Nxt w5 t n vb)
    (h : w6.ownsRow w1.heap.size e 2 (.slice (some ⟨g, 0, Option.none⟩) (td.length + 1) cap) (td.length + 1) (flatE td ++ [u, u'])) :
    w6.ownsRow w1.heap.size e 2 (.slice (some ⟨g, 0, Option.none⟩) (td.length + 1) cap) (td ++ [((l, l'), (u, u'))]).length (flatE (td ++ [((l, l'), (u, u'))])) ∧ Below w1.heap.size w1 w6 ∧ Nxt w6 (.slice (some ⟨g, 0, Option.none⟩) (td.length + 1) cap) n vb := by
  refine ⟨by rw [List.length_append, flatE_app]; exact h, (hb.alloc hb.size o).grown hg (by have := hb.size; simp; omega) (fun k hk => (hown.lt k hk).1), ⟨?_, ?_, ?_⟩⟩
  · have e1 : w6.heap[n]? = (w5.alloc o).heap[n]? := hg.block n (by have := hx.lt; simp; omega) (fun e => hx.ne n e.symm rfl)
    have e2 : (w5.alloc o).heap[n]? = w5.heap[n]? := Below.heap_alloc _ _ _ hx.lt
    have := hx.c
    simp only [World.cell?, e1, e2] at this ⊢
    exact this
  · have := hg.size; have := hx.lt; simp at *; omega
  · intro g' hg'
    have : g' = g := by simpa [Value.ownBlock] using hg'.symm
    subst this
    rcases hat with h1 | h1
    · exact hx.ne _ h1
    · have := hx.lt; omega
end Go.Proofs.Ytfacenfiocdbgaa
/-
  The draw's cursor: a block of three cells (the bytes, how many were read, a number that is mixed). One step of it answers a byte and turns nothing but that block.
-/
namespace Go.Proofs.Ytfacenfiocdbgaa
open Go.RowKit Go.Joins

theorem i64_and255 (n : Int) : bits .and .i64 n 255 = n % 256 := by
  have h8 : (BitVec.ofInt 64 255).toNat = 2 ^ 8 - 1 := by decide
  have key : (BitVec.ofInt 64 n &&& BitVec.ofInt 64 255).toNat = (n % ((2 ^ 64 : Nat) : Int)).toNat % 2 ^ 8 := by
    rw [BitVec.toNat_and, BitVec.toNat_ofInt, h8, Nat.and_two_pow_sub_one_eq_mod]
  show IntKind.i64.wrap ((BitVec.ofInt 64 n &&& BitVec.ofInt 64 255).toNat : Nat) = n % 256
  rw [key, IntKind.wrap_i64]
  omega

/-- Nothing but block b has turned. -/
structure Touch (b : Nat) (w w' : World) : Prop where
  os : w'.os = w.os
  tape : w'.tape = w.tape
  output : w'.output = w.output
  size : w'.heap.size = w.heap.size
  block : ∀ k, k ≠ b → w'.heap[k]? = w.heap[k]?
theorem Touch.refl (b : Nat) (w : World) : Touch b w w := ⟨rfl, rfl, rfl, rfl, fun _ _ => rfl⟩
theorem Touch.trans {b : Nat} {u v w : World} (h : Touch b u v) (k : Touch b v w) : Touch b u w :=
  ⟨k.os.trans h.os, k.tape.trans h.tape, k.output.trans h.output, k.size.trans h.size, fun i hi => (k.block i hi).trans (h.block i hi)⟩
theorem Touch.drewN {b : Nat} {u w : World} (h : Touch b u w) (n : Nat) : Touch b u (w.drewN n) := ⟨h.os, h.tape, h.output, h.size, h.block⟩
theorem Touch.setCell {b : Nat} {u w : World} (h : Touch b u w) (o : Nat) (v : Value) : Touch b u (w.setCell ⟨b, o, none⟩ v) :=
  h.trans ⟨rfl, rfl, rfl, by simp [World.setCell], fun k hk => Below.heap_setCell _ _ _ _ hk⟩
theorem Touch.below {b B : Nat} {u w : World} (h : Touch b u w) (hB : B ≤ b) : Below B u w := ⟨h.os, h.tape, h.output, by rw [h.size]; exact Nat.le_refl _, fun k hk => h.block k (by omega)⟩

/-- The bytes that came in: each cell of the slice is a byte, in a block below B. -/
def CodeIs (B : Nat) (W : World) (a : Option Addr) (len : Nat) : Prop :=
  ∀ j, j < len → ∃ cb off z, a = some ⟨cb, off, none⟩ ∧ cb < B ∧ W.cell? ⟨cb, off + j, none⟩ = some (.int .u8 z) ∧ 0 ≤ z ∧ z ≤ 255
theorem CodeIs.later {B : Nat} {W w : World} {a : Option Addr} {len : Nat} (h : CodeIs B W a len) (hb : Below B W w) : CodeIs B w a len := fun j hj => by
  obtain ⟨cb, off, z, e, hc, hz, z0, z1⟩ := h j hj
  exact ⟨cb, off, z, e, hc, by rw [hb.cell hc]; exact hz, z0, z1⟩

/-- The cursor lies in block b. -/
def Cur (a : Option Addr) (len cap b : Nat) (w : World) : Prop :=
  ∃ (k : Nat) (h : Int), k ≤ len ∧ w.heap[b]? = some (.cells #[.slice a len cap, .int .i64 k, .int .i64 h] 73 (0, 0))

theorem cur_mix {a : Option Addr} {len cap b k : Nat} {h : Int} {w : World} (hk : k ≤ len) (hb : w.heap[b]? = some (.cells #[.slice a len cap, .int .i64 k, .int .i64 h] 73 (0, 0))) (x : Int) (n : Nat) :
    Cur a len cap b ((w.setCell ⟨b, 2, none⟩ (.int .i64 x)).drewN n) := ⟨k, x, hk, by
  show (w.setCell ⟨b, 2, none⟩ (.int .i64 x)).heap[b]? = _
  rw [block_setCell hb]; rfl⟩
theorem cur_mix2 {a : Option Addr} {len cap b k : Nat} {h : Int} {w : World} (hk : k ≤ len) (hb : w.heap[b]? = some (.cells #[.slice a len cap, .int .i64 k, .int .i64 h] 73 (0, 0))) (x : Int) (n m : Nat) :
    Cur a len cap b (((w.setCell ⟨b, 2, none⟩ (.int .i64 x)).drewN n).drewN m) := cur_mix hk hb x n
theorem cur_next {a : Option Addr} {len cap b k : Nat} {h : Int} {w : World} (hk : k < len) (hb : w.heap[b]? = some (.cells #[.slice a len cap, .int .i64 k, .int .i64 h] 73 (0, 0))) (x : Int) (n : Nat) :
    Cur a len cap b (((w.setCell ⟨b, 2, none⟩ (.int .i64 x)).setCell ⟨b, 1, none⟩ (.int .i64 ((k : Int) + 1))).drewN n) := ⟨k + 1, x, hk, by
  show ((w.setCell ⟨b, 2, none⟩ (.int .i64 x)).setCell ⟨b, 1, none⟩ (.int .i64 ((k : Int) + 1))).heap[b]? = _
  rw [block_setCell (block_setCell hb _)]; rfl⟩

set_option maxHeartbeats 400000 in
theorem l1Byte (B : Nat) (a : Option Addr) (len cap b : Nat) (w : World) (hlen : len ≤ 281474976710656) (hB : B ≤ b) (hC : CodeIs B w a len) (hcur : Cur a len cap b w) :
    Calls Try.prog 65 #[.pointer (some ⟨b, 0, none⟩)] w fun e w' => ∃ x : Int, e = .returned (.int .i64 x) ∧ 0 ≤ x ∧ x ≤ 255 ∧ Cur a len cap b w' ∧ Touch b w w' := by
  obtain ⟨k, h, hk, hblk⟩ := hcur
  have c0 : w.cell? ⟨b, 0, none⟩ = some (.slice a len cap) := by simp [World.cell?, hblk]
  have c1 : w.cell? ⟨b, 1, none⟩ = some (.int .i64 (k : Int)) := by simp [World.cell?, hblk]
  have c2 : w.cell? ⟨b, 2, none⟩ = some (.int .i64 h) := by simp [World.cell?, hblk]
  have f1 : w.frozen? ⟨b, 1, none⟩ = false := by simp [World.frozen?, hblk]
  have f2 : w.frozen? ⟨b, 2, none⟩ = false := by simp [World.frozen?, hblk]
  have hand := i64_and255
  have Hb := Lib.hid hblk
  clear hblk
  by_cases hlt : k < len
  · obtain ⟨cb, off, z, rfl, hcb, hz, z0, z1⟩ := hC k hlt
    have hne : cb ≠ b := by omega
    go_enter Try.func65, Try.ntmps65
    go_wp2
    go_quiet (fail)
    go_wp2
    go_quiet (fail)
    go_wp2
    go_quiet (fail)
    go_wp2
    go_ret
    exact ⟨_, rfl, by omega, by omega, cur_next hlt Hb.out _ _, (((Touch.refl b w).setCell 2 _).setCell 1 _).drewN _⟩
  · go_enter Try.func65, Try.ntmps65
    go_wp2
    go_quiet (fail)
    go_wp2
    go_quiet (fail)
    go_wp2
    go_ret
    exact ⟨_, rfl, by omega, by omega, cur_mix2 hk Hb.out _ _ _, (((Touch.refl b w).setCell 2 _).drewN _).drewN _⟩

theorem cur_new (a : Option Addr) (len cap : Nat) (x : Int) (w : World) : Cur a len cap w.heap.size (w.alloc (.cells #[.slice a len cap, .int .i64 0, .int .i64 x] 73)) :=
  ⟨0, x, Nat.zero_le _, by show (w.heap.push _)[w.heap.size]? = _; simp⟩
theorem Cur.later {a : Option Addr} {len cap b : Nat} {w w' : World} (h : Cur a len cap b w) (e : w'.heap[b]? = w.heap[b]?) : Cur a len cap b w' := by
  obtain ⟨k, x, hk, hb⟩ := h
  exact ⟨k, x, hk, e.trans hb⟩
theorem Cur.lt {a : Option Addr} {len cap b : Nat} {w : World} (h : Cur a len cap b w) : b < w.heap.size := by
  obtain ⟨k, x, hk, hb⟩ := h
  exact (Array.getElem?_eq_some_iff.1 hb).1
set_option maxHeartbeats 400000 in
theorem l1New (B : Nat) (a : Option Addr) (len cap : Nat) (w : World) (hlen : len ≤ 281474976710656) (hC : CodeIs B w a len) :
    Calls Try.prog 29 #[.slice a len cap] w fun e w' => e = .returned (.pointer (some ⟨w.heap.size, 0, none⟩)) ∧ Cur a len cap w.heap.size w' ∧ Below w.heap.size w w' := by
  go_enter Try.func29, Try.ntmps29
  go_wp2
  go_loop [3, 4] (fun h i => ∃ (x : Int) (k : Nat), h = .int .i64 x ∧ i = .int .i64 k ∧ k ≤ len) (fun _ i => len - (intOf i).toNat)
  case atStart => exact ⟨_, 0, rfl, rfl, by omega⟩
  case round =>
    obtain ⟨x, k, rfl, rfl, hk⟩ := hrel
    by_cases hlt : k < len ∧ k < 4000
    · obtain ⟨hlt, h4'⟩ := hlt
      have h4 : (k : Int) < 4000 := by omega
      clear h4'
      obtain ⟨cb, off, z, rfl, hcb, hz, z0, z1⟩ := hC k hlt
      go_wp2
      go_round
      case rel => exact ⟨_, k + 1, rfl, by go_num, by omega⟩
      case measure => simp [intOf]; omega
    · by_cases hlt2 : k < len
      · obtain ⟨y, hy⟩ : ∃ y : Int, (k : Int) = y := ⟨_, rfl⟩
        have h4 : (4000 : Int) ≤ y := by omega
        rw [hy]
        have h5 : y < (len : Int) := by omega
        clear hlt hlt2 hk hy
        go_wp2
        go_ret
        exact ⟨rfl, cur_new _ _ _ _ _, (Below.refl _ _).alloc (Nat.le_refl _) _⟩
      · clear hlt
        go_wp2
        go_ret
        exact ⟨rfl, cur_new _ _ _ _ _, (Below.refl _ _).alloc (Nat.le_refl _) _⟩

theorem l1Below (B : Nat) (a : Option Addr) (len cap b : Nat) (n : Int) (w : World) (hlen : len ≤ 281474976710656) (hB : B ≤ b) (hC : CodeIs B w a len) (hcur : Cur a len cap b w) (hn0 : 0 < n) :
    Calls Try.prog 49 #[.pointer (some ⟨b, 0, none⟩), .int .i64 n] w fun e w' => ∃ x : Int, e = .returned (.int .i64 x) ∧ 0 ≤ x ∧ x < n ∧ Cur a len cap b w' ∧ Touch b w w' := by
  have hn1 : n ≠ 0 := by omega
  by_cases h256 : n ≤ 256
  · go_enter Try.func49, Try.ntmps49
    go_wp2_with (go_at_call 65; refine (l1Byte B a len cap b _ hlen hB hC hcur).mono ?_; rintro e w1 ⟨x, rfl, x0, x1, hc1, ht1⟩)
    go_ret
    exact ⟨_, rfl, Int.emod_nonneg _ hn1, Int.emod_lt_of_pos _ hn0, hc1, ht1⟩
  · go_enter Try.func49, Try.ntmps49
    go_wp2_with fail
    refine (l1Byte B a len cap b _ hlen hB hC hcur).mono ?_
    rintro e w1 ⟨x, rfl, x0, x1, hc1, ht1⟩
    have hC1 := hC.later (ht1.below hB)
    go_wp2_with fail
    refine (l1Byte B a len cap b _ hlen hB hC1 hc1).mono ?_
    rintro e w2 ⟨y, rfl, y0, y1, hc2, ht2⟩
    have hC2 := hC1.later (ht2.below hB)
    go_wp2_with fail
    refine (l1Byte B a len cap b _ hlen hB hC2 hc2).mono ?_
    rintro e w3 ⟨z, rfl, z0, z1, hc3, ht3⟩
    go_wp2
    go_ret
    exact ⟨_, rfl, Int.emod_nonneg _ hn1, Int.emod_lt_of_pos _ hn0, hc3, (ht1.trans ht2).trans ht3⟩

theorem l1Once (B : Nat) (a : Option Addr) (len cap b : Nat) (n : Int) (w : World) (hlen : len ≤ 281474976710656) (hB : B ≤ b) (hC : CodeIs B w a len) (hcur : Cur a len cap b w) (hn0 : 0 < n) :
    Calls Try.prog 50 #[.pointer (some ⟨b, 0, none⟩), .int .i64 n] w fun e w' => ∃ x : Bool, e = .returned (.bool x) ∧ Cur a len cap b w' ∧ Touch b w w' := by
  go_enter Try.func50, Try.ntmps50
  go_wp2_with (go_at_call 49; refine (l1Below B a len cap b _ _ hlen hB hC hcur hn0).mono ?_; rintro e w1 ⟨x, rfl, x0, x1, hc1, ht1⟩)
  go_ret
  exact ⟨_, rfl, hc1, ht1⟩
end Go.Proofs.Ytfacenfiocdbgaa
