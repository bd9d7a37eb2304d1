/-
  The walk of laws.FnAsts.
-/
import Derived.Test.YtkhccpjkajhnpaaP08ofFnAsts
import Derived.Test.YtkhccpjkajhnpaaP11ofFnAsts
import Derived.Test.YtkhccpjkajhnpaaP13ofFnAsts
import Derived.Test.YtkhccpjkajhnpaaAstAllS
import Derived.Test.YtkhccpjkajhnpaaP03ofFnAsts
import Derived.Test.YtkhccpjkajhnpaaP02ofFnAsts
namespace Go.Proofs.Ytkhccpjkajhnpaa
open Go.RowKit Go.Lib
set_option linter.unusedSimpArgs false
set_option linter.unusedVariables false

theorem esame_self : ∀ F : EF, esame F F = true
  | .nil => rfl
  | .node _ _ h l r => by simp only [esame, hsame, esame_self l, esame_self r, decide_true, Bool.and_self]
theorem xsame_self (x : X) : xsame x x = true := by simp only [xsame, hsame, esame_self, decide_true, Bool.and_self]
theorem ssameH_self (h : SH) : ssameH h h = true := by simp only [ssameH, xsame_self, decide_true, Bool.and_self]
theorem ssame_self : ∀ F : SF, ssame F F = true
  | .nil => rfl
  | .node _ _ h l r => by simp only [ssame, ssameH_self, ssame_self l, ssame_self r, Bool.and_self]
theorem small_of {h : SH} (e : hsize h ≤ 1048576) : small h := by
  have := enodes_le h.x1.l; have := enodes_le h.x2.l; have := enodes_le h.x3.l; have := enodes_le h.x4.l
  simp only [hsize, xsize] at e
  exact ⟨by omega, by omega, by omega, by omega⟩
theorem small9_at {h : SH} (e : hsize h ≤ 1048576) : small9 h := by
  have := enodes_le h.x1.l; have := enodes_le h.x2.l; have := enodes_le h.x3.l; have := enodes_le h.x4.l
  simp only [hsize, xsize] at e
  exact ⟨by omega, by omega, by omega, by omega⟩
theorem allSmall_of : ∀ F : SF, ssize F ≤ 1048576 → allSmall F
  | .nil, _ => trivial
  | .node _ _ h l r, e => by simp only [ssize] at e; exact ⟨small_of (by omega), allSmall_of l (by omega), allSmall_of r (by omega)⟩
theorem all9_at : ∀ F : SF, ssize F ≤ 1048576 → all9 F
  | .nil, _ => trivial
  | .node _ _ h l r, e => by simp only [ssize] at e; exact ⟨small9_at (by omega), all9_at l (by omega), all9_at r (by omega)⟩
theorem slen_snodes : ∀ F : SF, slen F ≤ snodes F
  | .nil => Nat.le_refl _
  | .node _ _ h l r => by have := slen_snodes r; simp only [slen, snodes]; omega
theorem snodes_ssize : ∀ F : SF, snodes F ≤ ssize F
  | .nil => Nat.zero_le _
  | .node _ _ h l r => by have := snodes_ssize l; have := snodes_ssize r; simp only [snodes, ssize]; omega
theorem heap_last0 (v : World) (o : Obj) : (v.alloc o).heap[v.heap.size]? = some o := by show (v.heap.push o)[v.heap.size]? = _; simp
/-- Two boxes one behind the other. -/
theorem box_two {w W : World} {arr : Array Value} {t : TypeId} {A C : List Value} (hA : A.length ≤ arr.size) (hC : C.length ≤ arr.size) (hW : (((w.alloc (.cells arr t)).alloc (.cells arr t)).setCells w.heap.size 0 A).setCells (w.heap.size + 1) 0 C = W) :
    W.rangeAt w.heap.size 0 A ∧ W.rangeAt (w.heap.size + 1) 0 C ∧ Below w.heap.size w W := by
  have e0 : ((w.alloc (.cells arr t)).alloc (.cells arr t)).heap[w.heap.size]? = some (.cells arr t (0, 0)) := by
    rw [Below.heap_alloc _ _ _ (by simp)]; show (w.heap.push _)[w.heap.size]? = _; simp
  have e1 : ((w.alloc (.cells arr t)).alloc (.cells arr t)).heap[w.heap.size + 1]? = some (.cells arr t (0, 0)) := by
    have h := heap_last0 (w.alloc (.cells arr t)) (.cells arr t)
    rw [World.size_alloc] at h
    exact h
  have hb : Below w.heap.size w ((w.alloc (.cells arr t)).alloc (.cells arr t)) := (alloc_below w _).alloc (by simp) _
  have h := two_sets (A := A) (C := C) (blk_there e0 hA) (blk_there e1 hC) hb hW
  exact ⟨h.1, h.2.1, h.2.2.2⟩
theorem box_th0 (w : World) {arr : Array Value} {t : TypeId} {n : Nat} (hn : n ≤ arr.size) : ((w.alloc (.cells arr t)).alloc (.cells arr t)).there w.heap.size 0 n :=
  blk_there (arr := arr) (t := t) (by rw [Below.heap_alloc _ _ _ (by simp)]; show (w.heap.push _)[w.heap.size]? = _; simp) hn
theorem box_th1 (w : World) {arr : Array Value} {t : TypeId} {n : Nat} (hn : n ≤ arr.size) : ((w.alloc (.cells arr t)).alloc (.cells arr t)).there (w.heap.size + 1) 0 n :=
  blk_there (arr := arr) (t := t) (by
    have h := heap_last0 (w.alloc (.cells arr t)) (.cells arr t)
    rw [World.size_alloc] at h
    exact h) hn
set_option maxHeartbeats 4000000 in
set_option maxRecDepth 100000 in
theorem asts_walk (a : Option Addr) (len cap : Nat) (w : World) (hC : CodeIs w.heap.size w a len) :
    Calls Try.prog 3 #[.slice a len cap] w fun e w' => e = .returned (.bool true) ∧ Below w.heap.size w w' := by
  have HC := Lib.hid hC
  clear hC
  go_enter Try.func3, Try.ntmps3
  go_wp2_with fail
  refine (big_is a len cap _).mono ?_
  rintro e w0 ⟨rfl, rfl⟩
  by_cases hbig : (1048576 : Int) < (len : Int)
  · have hb1 : decide ((1048576 : Int) < (len : Int)) = true := decide_eq_true hbig
    rw [hb1]
    go_wp2
    go_ret
    exact ⟨rfl, Below.refl _ _⟩
  have hb1 : decide ((1048576 : Int) < (len : Int)) = false := decide_eq_false hbig
  rw [hb1]
  have hlen : len ≤ 281474976710656 := by omega
  clear hb1 hbig
  go_wp2_with fail
  refine (DrawExpOk_is a len cap _ hlen HC.out).mono ?_
  rintro e w1 ⟨x, vx, rfl, g1, s1, hb1⟩
  have oe := oneX x vx g1.isOne
  have K1 := Lib.hid (And.intro g1 hb1)
  clear g1 hb1
  go_wp2_with (first | (refine store_abs rfl 26 _ _ rfl _ _ _ rfl rfl ?ht sizeIE2 ?ho ?_; exact (newthere4 w1 _); exact oe; intro W1 hW; have HW1 := Lib.hid (newblk4 x vx hW); clear hW))
  have B1 := Lib.hid (K1.out.2.trans (HW1.out.2.mono K1.out.2.size))
  refine (DrawStmtOk_is a len cap _ hlen ((HC.out.later B1.out).mono B1.out.size)).mono ?_
  rintro e w2 ⟨h, l, v1, v2, v3, v4, v, hret, g2, g2', s2, hb2⟩
  obtain ⟨A, HA⟩ : ∃ A, Hid (scells h v1 v2 v3 v4 v = A) := ⟨_, rfl⟩
  have szA : A.toArray.size = 19 := by rw [← HA.out]; rfl
  have lnA : A.length = 19 := by rw [← HA.out]; rfl
  have ioA : A.toArray.all (·.oneCell') = true := by rw [← HA.out]; exact oneS h v1 v2 v3 v4 v g2.e1.isOne g2.e2.isOne g2.e3.isOne g2.e4.isOne g2'.isOne
  obtain rfl : e = .returned (.agg A.toArray) := by rw [← HA.out]; exact hret
  have K2 := Lib.hid (And.intro (And.intro g2 g2') hb2)
  clear g2 g2' hb2 hret
  go_wp2_with (first | (refine store_abs rfl 30 _ _ rfl w2.heap.size 0 A.toArray rfl rfl (by rw [szA]; exact (newthere w2 _)) (by rw [szA]; exact sizeIS) ioA ?_; intro W2 hW; have HW2 := Lib.hid (newblk (arr := zero19) (vs := A) (by rw [lnA]; exact Nat.le_refl 19) hW); clear hW))
  have b2 := K2.out.2.trans (HW2.out.2.mono K2.out.2.size)
  have B2 := Lib.hid (B1.out.trans (b2.mono B1.out.size))
  have L2 := Lib.hid b2
  clear b2
  refine (DrawSameExp_is a len cap _ hlen ((HC.out.later B2.out).mono B2.out.size)).mono ?_
  rintro e w3 ⟨x3, y3, u3, z3, rfl, g3, g3', s3, s3', hb3⟩
  have o3 := oneX x3 u3 g3.isOne
  have o3' := oneX y3 z3 g3'.isOne
  have K3 := Lib.hid (And.intro (And.intro g3 g3') hb3)
  clear g3 g3' hb3
  go_wp2_with (first
    | (refine store_abs rfl 26 _ _ rfl w3.heap.size 0 (xcells x3 u3).toArray rfl rfl (box_th0 w3 (Nat.le_refl 4)) sizeIE2 o3 ?_; intro Wa hWa)
    | (refine store_abs rfl 26 _ _ rfl (w3.heap.size + 1) 0 (xcells y3 z3).toArray rfl rfl (by rw [← hWa]; exact World.there_setCells (box_th1 w3 (Nat.le_refl 4)) _ _ _) sizeIE2 o3' ?_; intro W3 hW; subst hWa; have HW3 := Lib.hid (box_two (arr := zero4) (A := xcells x3 u3) (C := xcells y3 z3) (Nat.le_refl 4) (Nat.le_refl 4) hW); clear hW))
  have b3 := K3.out.2.trans (HW3.out.2.2.mono K3.out.2.size)
  have B3 := Lib.hid (B2.out.trans (b3.mono B2.out.size))
  have L3 := Lib.hid b3
  clear b3
  refine (DrawSameStmt_is a len cap _ hlen ((HC.out.later B3.out).mono B3.out.size)).mono ?_
  rintro e w4 ⟨g4, h4, gl4, hl4, a1, a2, a3, a4, av, b1, b2, b3, b4, bv, hret, q4, q4', s4, s4', hb4⟩
  obtain ⟨C, HC4⟩ : ∃ C, Hid (scells g4 a1 a2 a3 a4 av = C) := ⟨_, rfl⟩
  obtain ⟨D, HD4⟩ : ∃ D, Hid (scells h4 b1 b2 b3 b4 bv = D) := ⟨_, rfl⟩
  have szC : C.toArray.size = 19 := by rw [← HC4.out]; rfl
  have szD : D.toArray.size = 19 := by rw [← HD4.out]; rfl
  have lnC : C.length = 19 := by rw [← HC4.out]; rfl
  have lnD : D.length = 19 := by rw [← HD4.out]; rfl
  have ioC : C.toArray.all (·.oneCell') = true := by rw [← HC4.out]; exact oneS g4 a1 a2 a3 a4 av q4.1.e1.isOne q4.1.e2.isOne q4.1.e3.isOne q4.1.e4.isOne q4.2.isOne
  have ioD : D.toArray.all (·.oneCell') = true := by rw [← HD4.out]; exact oneS h4 b1 b2 b3 b4 bv q4'.1.e1.isOne q4'.1.e2.isOne q4'.1.e3.isOne q4'.1.e4.isOne q4'.2.isOne
  obtain rfl : e = .returned (.tuple #[.agg C.toArray, .agg D.toArray]) := by rw [← HC4.out, ← HD4.out]; exact hret
  have K4 := Lib.hid (And.intro (And.intro q4 q4') hb4)
  clear q4 q4' hb4 hret
  go_wp2_with (first
    | (refine store_abs rfl 30 _ _ rfl w4.heap.size 0 C.toArray rfl rfl (by rw [szC]; exact box_th0 w4 (Nat.le_refl 19)) (by rw [szC]; exact sizeIS) ioC ?_; intro Wa hWa)
    | (refine store_abs rfl 30 _ _ rfl (w4.heap.size + 1) 0 D.toArray rfl rfl (by rw [szD, ← hWa]; exact World.there_setCells (box_th1 w4 (Nat.le_refl 19)) _ _ _) (by rw [szD]; exact sizeIS) ioD ?_; intro W4 hW; subst hWa; have HW4 := Lib.hid (box_two (arr := zero19) (A := C) (C := D) (by rw [lnC]; exact Nat.le_refl 19) (by rw [lnD]; exact Nat.le_refl 19) hW); clear hW))
  have b4 := K4.out.2.trans (HW4.out.2.2.mono K4.out.2.size)
  have B4 := Lib.hid (B3.out.trans (b4.mono B3.out.size))
  have L4 := Lib.hid b4
  clear b4
  refine (DrawSize_is a len cap _ hlen ((HC.out.later B4.out).mono B4.out.size)).mono ?_
  rintro e w5 ⟨F, vf, rfl, g5, s5, hb5⟩
  obtain ⟨fa, fc, rfl⟩ := g5.shape
  have limTv : limT ≤ 2000 := by decide
  have limAv : limA ≤ 2000 := by decide
  have limRv : 4 * (limS 2 + 1) ≤ 3000 := by decide
  have K5 := Lib.hid (And.intro g5 hb5)
  obtain ⟨n1, hn1⟩ : ∃ n, Hid (w1.heap.size = n) := ⟨_, rfl⟩
  obtain ⟨n2, hn2⟩ : ∃ n, Hid (w2.heap.size = n) := ⟨_, rfl⟩
  obtain ⟨n3, hn3⟩ : ∃ n, Hid (w3.heap.size = n) := ⟨_, rfl⟩
  obtain ⟨n4, hn4⟩ : ∃ n, Hid (w4.heap.size = n) := ⟨_, rfl⟩
  have c45 : Below W4.heap.size W4 w5 := hb5
  have c35 : Below W3.heap.size W3 w5 := L4.out.trans (c45.mono L4.out.size)
  have c25 : Below W2.heap.size W2 w5 := L3.out.trans (c35.mono L3.out.size)
  have c15 : Below W1.heap.size W1 w5 := L2.out.trans (c25.mono L2.out.size)
  have R1 : Hid (w5.rangeAt n1 0 (xcells x vx)) := Lib.hid (by rw [← hn1.out]; exact rangeAt_later HW1.out.1 c15)
  have R2 : Hid (w5.rangeAt n2 0 A) := Lib.hid (by rw [← hn2.out]; exact rangeAt_later HW2.out.1 c25)
  have R3 : Hid (w5.rangeAt n3 0 (xcells x3 u3) ∧ w5.rangeAt (n3 + 1) 0 (xcells y3 z3)) := Lib.hid (by rw [← hn3.out]; exact ⟨rangeAt_later HW3.out.1 c35, rangeAt_later HW3.out.2.1 c35⟩)
  have R4 : Hid (w5.rangeAt n4 0 C ∧ w5.rangeAt (n4 + 1) 0 D) := Lib.hid (by rw [← hn4.out]; exact ⟨rangeAt_later HW4.out.1 c45, rangeAt_later HW4.out.2.1 c45⟩)
  have e1 := (((K1.out.1.low).later HW1.out.2).later c15)
  have e2 := ((K2.out.1.1.lower (Nat.zero_le _)).later HW2.out.2).later c25
  have e2' := ((K2.out.1.2.lower (Nat.zero_le _)).later HW2.out.2).later c25
  have e3 := ((K3.out.1.1.low).later HW3.out.2.2).later c35
  have e3' := ((K3.out.1.2.low).later HW3.out.2.2).later c35
  have e4 := ((K4.out.1.1.1.lower (Nat.zero_le _)).later HW4.out.2.2).later c45
  have f4 := ((K4.out.1.1.2.lower (Nat.zero_le _)).later HW4.out.2.2).later c45
  have e4' := ((K4.out.1.2.1.lower (Nat.zero_le _)).later HW4.out.2.2).later c45
  have f4' := ((K4.out.1.2.2.lower (Nat.zero_le _)).later HW4.out.2.2).later c45
  have e5 := K5.out.1.lower (Nat.zero_le _)
  obtain ⟨t1, ht1⟩ : ∃ t, Hid (expOk x = t) := ⟨_, rfl⟩
  obtain ⟨t2, ht2⟩ : ∃ t, Hid (stmtOk h l = t) := ⟨_, rfl⟩
  obtain ⟨t3, ht3⟩ : ∃ t, Hid (xsame x3 y3 = t) := ⟨_, rfl⟩
  obtain ⟨t4, ht4⟩ : ∃ t, Hid ((ssameH g4 h4 && ssame gl4 hl4) = t) := ⟨_, rfl⟩
  have J1 : Hid (∀ W, Below w5.heap.size w5 W → Calls Try.prog 10 #[.agg (xcells x vx).toArray] W fun e w' => e = .returned (.bool t1) ∧ Below W.heap.size W w') := Lib.hid fun W hW => by rw [← ht1.out]; exact impl_ExpOk x (by have := enodes_le x.l; simp only [xsize] at s1; omega) W vx (e1.later hW)
  have J2 : Hid (∀ W, Below w5.heap.size w5 W → Calls Try.prog 11 #[.agg (xcells x vx).toArray] W fun e w' => e = .returned (.bool t1) ∧ Below W.heap.size W w') := Lib.hid fun W hW => by rw [← ht1.out]; exact spec_ExpOk x (by omega) W vx (e1.later hW)
  have J3 : Hid (∀ W, Below w5.heap.size w5 W → Calls Try.prog 12 #[.agg A.toArray] W fun e w' => e = .returned (.bool t2) ∧ Below W.heap.size W w') := Lib.hid fun W hW => by rw [← ht2.out, ← HA.out]; exact impl_StmtOk h l (small9_at (by omega)) (all9_at l (by omega)) (by have := snodes_ssize l; omega) W v1 v2 v3 v4 v (e2.later hW) (e2'.later hW)
  have J4 : Hid (∀ W, Below w5.heap.size w5 W → Calls Try.prog 13 #[.agg A.toArray] W fun e w' => e = .returned (.bool t2) ∧ Below W.heap.size W w') := Lib.hid fun W hW => by rw [← ht2.out, ← HA.out]; exact spec_StmtOk h l (by omega) W v1 v2 v3 v4 v (e2.later hW) (e2'.later hW)
  have J5 : Hid (∀ W, Below w5.heap.size w5 W → Calls Try.prog 14 #[.agg (xcells x3 u3).toArray, .agg (xcells y3 z3).toArray] W fun e w' => e = .returned (.bool t3) ∧ Below W.heap.size W w') := Lib.hid fun W hW => by rw [← ht3.out]; exact impl_SameExp x3 y3 (by have := enodes_le x3.l; simp only [xsize] at s3; omega) W u3 z3 (e3.later hW) (e3'.later hW)
  have J6 : Hid (∀ W, Below w5.heap.size w5 W → Calls Try.prog 15 #[.agg (xcells x3 u3).toArray, .agg (xcells y3 z3).toArray] W fun e w' => e = .returned (.bool t3) ∧ Below W.heap.size W w') := Lib.hid fun W hW => by rw [← ht3.out]; exact spec_SameExp x3 y3 (by have := enodes_le x3.l; simp only [xsize] at s3; omega) (by have := enodes_le y3.l; simp only [xsize] at s3'; omega) W u3 z3 (e3.later hW) (e3'.later hW)
  have J7 : Hid (∀ W, Below w5.heap.size w5 W → Calls Try.prog 16 #[.agg C.toArray, .agg D.toArray] W fun e w' => e = .returned (.bool t4) ∧ Below W.heap.size W w') := Lib.hid fun W hW => by rw [← ht4.out, ← HC4.out, ← HD4.out]; exact impl_SameStmt g4 h4 gl4 hl4 (small_of (by omega)) (allSmall_of gl4 (by omega)) (by have := snodes_ssize gl4; omega) W a1 a2 a3 a4 av b1 b2 b3 b4 bv (e4.later hW) (f4.later hW) (e4'.later hW) (f4'.later hW)
  have J8 : Hid (∀ W, Below w5.heap.size w5 W → Calls Try.prog 17 #[.agg C.toArray, .agg D.toArray] W fun e w' => e = .returned (.bool t4) ∧ Below W.heap.size W w') := Lib.hid fun W hW => by rw [← ht4.out, ← HC4.out, ← HD4.out]; exact spec_SameStmt g4 h4 gl4 hl4 (small_of (by omega)) (small_of (by omega)) (allSmall_of gl4 (by omega)) (allSmall_of hl4 (by omega)) (by have := snodes_ssize gl4; omega) (by have := snodes_ssize hl4; omega) W a1 a2 a3 a4 av b1 b2 b3 b4 bv (e4.later hW) (e4'.later hW) (f4.later hW) (f4'.later hW)
  have J9 : Hid (∀ W, Below w5.heap.size w5 W → Calls Try.prog 18 #[.slice fa (slen F) fc] W fun e w' => e = .returned (.int .i64 (snodes F : Int)) ∧ Below W.heap.size W w') := Lib.hid fun W hW => impl_Size F (by have := snodes_ssize F; omega) W _ (e5.later hW)
  have J10 : Hid (∀ W, Below w5.heap.size w5 W → Calls Try.prog 19 #[.slice fa (slen F) fc] W fun e w' => e = .returned (.int .i64 (snodes F : Int)) ∧ Below W.heap.size W w') := Lib.hid fun W hW => spec_Size F (by have := snodes_ssize F; omega) W _ (e5.later hW)
  have J11 : Hid (∀ W, Below w5.heap.size w5 W → Calls Try.prog 14 #[.agg (xcells x3 u3).toArray, .agg (xcells x3 u3).toArray] W fun e w' => e = .returned (.bool true) ∧ Below W.heap.size W w') := Lib.hid fun W hW => by have h := impl_SameExp x3 x3 (by have := enodes_le x3.l; simp only [xsize] at s3; omega) W u3 u3 (e3.later hW) (e3.later hW); rw [xsame_self] at h; exact h
  have J12 : Hid (∀ W, Below w5.heap.size w5 W → Calls Try.prog 16 #[.agg C.toArray, .agg C.toArray] W fun e w' => e = .returned (.bool true) ∧ Below W.heap.size W w') := Lib.hid fun W hW => by rw [← HC4.out]; have h := impl_SameStmt g4 g4 gl4 gl4 (small_of (by omega)) (allSmall_of gl4 (by omega)) (by have := snodes_ssize gl4; omega) W a1 a2 a3 a4 av a1 a2 a3 a4 av (e4.later hW) (f4.later hW) (e4.later hW) (f4.later hW); rw [ssameH_self, ssame_self] at h; exact h
  have hle : (slen F : Int) ≤ (snodes F : Int) := by have := slen_snodes F; omega
  have BF := Lib.hid (B4.out.trans (hb5.mono B4.out.size))
  have q1 : (t1 == t1) = true := by simp
  have q2 : (t2 == t2) = true := by simp
  have q3 : (t3 == t3) = true := by simp
  have q4 : (t4 == t4) = true := by simp
  have q5 : ((snodes F : Int) == (snodes F : Int)) = true := by simp
  clear e1 e2 e2' e3 e3' e4 f4 e4' f4' e5 c45 c35 c25 c15 K1 K2 K3 K4 K5 L2 L3 L4 B1 B2 B3 B4 HW1 HW2 HW3 HW4 g5 hb5 s1 s2 s3 s3' s4 s4' s5 ioA ioC ioD oe o3 o3' szA szC szD ht1 ht2 ht3 ht4 HA HC4 HD4 HC limTv limAv limRv
  go_wp2_with fail
  rw [hn1.out, hn2.out, hn3.out, hn4.out]
  clear hn1 hn2 hn3 hn4
  have bd : Below w5.heap.size w5 w5.drew := (Below.refl _ w5).drew
  refine wp_region_held_drew (S := Below w5.heap.size w5) (by kernel_rfl) bd (fun hHeld => ?_)
  refine wpAnyH_take (i := 0) (v := .agg (xcells x vx).toArray) rfl (by kernel_rfl) (by kernel_rfl) (by kernel_rfl) (fun _ _ _ h => h) (yieldsIf_load_mid (by rfl) 26 _ rfl (n1) (0) rfl (xcells x vx) _ (fun w h => rangeAt_later R1.out h) Try.underlying26 rfl sizeIE2) hHeld ?_
  simp only [Act.put, List.getElem_toArray, List.getElem_cons_succ, List.getElem_cons_zero, List.setIfInBounds_toArray, List.set_cons_zero, List.set_cons_succ]
  refine wpAnyH_take (i := 2) (v := .agg (xcells x vx).toArray) rfl (by kernel_rfl) (by kernel_rfl) (by kernel_rfl) (fun _ _ _ h => h) (yieldsIf_load_mid (by rfl) 26 _ rfl (n1) (0) rfl (xcells x vx) _ (fun w h => rangeAt_later R1.out h) Try.underlying26 rfl sizeIE2) hHeld ?_
  simp only [Act.put, List.getElem_toArray, List.getElem_cons_succ, List.getElem_cons_zero, List.setIfInBounds_toArray, List.set_cons_zero, List.set_cons_succ]
  refine wpAnyH_ready (rs := [1]) (by kernel_rfl) (by simp) ?_
  refine AllReadyH.cons rfl (fun K hK => ?_) AllReadyH.nil
  rw [if_pos (by rfl)]
  simp only [List.getElem_toArray, List.getElem_cons_succ, List.getElem_cons_zero]
  go_wp2_with fail
  refine (J1.out _ hHeld).mono ?_
  rintro e w16 ⟨rfl, hb16⟩
  go_wp2_with fail
  refine hK.out _ _ (hHeld.trans (hb16.mono hHeld.size)) (fun hHeld => ?_)
  try simp only [Act.put, List.getElem_toArray, List.getElem_cons_succ, List.getElem_cons_zero, List.setIfInBounds_toArray, List.set_cons_zero, List.set_cons_succ]
  refine wpAnyH_ready (rs := [3]) (by kernel_rfl) (by simp) ?_
  refine AllReadyH.cons rfl (fun K hK => ?_) AllReadyH.nil
  rw [if_pos (by rfl)]
  simp only [List.getElem_toArray, List.getElem_cons_succ, List.getElem_cons_zero]
  go_wp2_with fail
  refine (J2.out _ hHeld).mono ?_
  rintro e w17 ⟨rfl, hb17⟩
  go_wp2_with fail
  refine hK.out _ _ (hHeld.trans (hb17.mono hHeld.size)) (fun hHeld => ?_)
  try simp only [Act.put, List.getElem_toArray, List.getElem_cons_succ, List.getElem_cons_zero, List.setIfInBounds_toArray, List.set_cons_zero, List.set_cons_succ]
  refine wpAnyH_take (i := 4) (v := .bool true) rfl (by kernel_rfl) (by kernel_rfl) (by kernel_rfl) (fun _ _ _ h => h) (Or.inl ⟨by rfl, ?yk4⟩) hHeld ?_
  case yk4 => intro w hSw; go_simp
  simp only [Act.put, List.getElem_toArray, List.getElem_cons_succ, List.getElem_cons_zero, List.setIfInBounds_toArray, List.set_cons_zero, List.set_cons_succ]
  refine wpAnyH_take (i := 5) (v := .bool true) rfl (by kernel_rfl) (by kernel_rfl) (by kernel_rfl) (fun _ _ _ h => h) (Or.inl ⟨by rfl, ?yk5⟩) hHeld ?_
  case yk5 => intro w hSw; go_simp
  simp only [Act.put, List.getElem_toArray, List.getElem_cons_succ, List.getElem_cons_zero, List.setIfInBounds_toArray, List.set_cons_zero, List.set_cons_succ]
  refine wpAnyH_take (i := 6) (v := .agg (A).toArray) rfl (by kernel_rfl) (by kernel_rfl) (by kernel_rfl) (fun _ _ _ h => h) (yieldsIf_load_mid (by rfl) 30 _ rfl (n2) (0) rfl (A) _ (fun w h => rangeAt_later R2.out h) Try.underlying30 rfl (by rw [lnA]; exact sizeIS)) hHeld ?_
  simp only [Act.put, List.getElem_toArray, List.getElem_cons_succ, List.getElem_cons_zero, List.setIfInBounds_toArray, List.set_cons_zero, List.set_cons_succ]
  refine wpAnyH_take (i := 8) (v := .agg (A).toArray) rfl (by kernel_rfl) (by kernel_rfl) (by kernel_rfl) (fun _ _ _ h => h) (yieldsIf_load_mid (by rfl) 30 _ rfl (n2) (0) rfl (A) _ (fun w h => rangeAt_later R2.out h) Try.underlying30 rfl (by rw [lnA]; exact sizeIS)) hHeld ?_
  simp only [Act.put, List.getElem_toArray, List.getElem_cons_succ, List.getElem_cons_zero, List.setIfInBounds_toArray, List.set_cons_zero, List.set_cons_succ]
  refine wpAnyH_ready (rs := [7]) (by kernel_rfl) (by simp) ?_
  refine AllReadyH.cons rfl (fun K hK => ?_) AllReadyH.nil
  rw [if_pos (by rfl)]
  simp only [List.getElem_toArray, List.getElem_cons_succ, List.getElem_cons_zero]
  go_wp2_with fail
  refine (J3.out _ hHeld).mono ?_
  rintro e w18 ⟨rfl, hb18⟩
  go_wp2_with fail
  refine hK.out _ _ (hHeld.trans (hb18.mono hHeld.size)) (fun hHeld => ?_)
  try simp only [Act.put, List.getElem_toArray, List.getElem_cons_succ, List.getElem_cons_zero, List.setIfInBounds_toArray, List.set_cons_zero, List.set_cons_succ]
  refine wpAnyH_ready (rs := [9]) (by kernel_rfl) (by simp) ?_
  refine AllReadyH.cons rfl (fun K hK => ?_) AllReadyH.nil
  rw [if_pos (by rfl)]
  simp only [List.getElem_toArray, List.getElem_cons_succ, List.getElem_cons_zero]
  go_wp2_with fail
  refine (J4.out _ hHeld).mono ?_
  rintro e w19 ⟨rfl, hb19⟩
  go_wp2_with fail
  refine hK.out _ _ (hHeld.trans (hb19.mono hHeld.size)) (fun hHeld => ?_)
  try simp only [Act.put, List.getElem_toArray, List.getElem_cons_succ, List.getElem_cons_zero, List.setIfInBounds_toArray, List.set_cons_zero, List.set_cons_succ]
  refine wpAnyH_take (i := 10) (v := .bool true) rfl (by kernel_rfl) (by kernel_rfl) (by kernel_rfl) (fun _ _ _ h => h) (Or.inl ⟨by rfl, ?yk10⟩) hHeld ?_
  case yk10 => intro w hSw; go_simp
  simp only [Act.put, List.getElem_toArray, List.getElem_cons_succ, List.getElem_cons_zero, List.setIfInBounds_toArray, List.set_cons_zero, List.set_cons_succ]
  refine wpAnyH_take (i := 11) (v := .bool true) rfl (by kernel_rfl) (by kernel_rfl) (by kernel_rfl) (fun _ _ _ h => h) (Or.inl ⟨by rfl, ?yk11⟩) hHeld ?_
  case yk11 => intro w hSw; go_simp
  simp only [Act.put, List.getElem_toArray, List.getElem_cons_succ, List.getElem_cons_zero, List.setIfInBounds_toArray, List.set_cons_zero, List.set_cons_succ]
  refine wpAnyH_take (i := 12) (v := .bool true) rfl (by kernel_rfl) (by kernel_rfl) (by kernel_rfl) (fun _ _ _ h => h) (Or.inl ⟨by rfl, ?yk12⟩) hHeld ?_
  case yk12 => intro w hSw; go_simp
  simp only [Act.put, List.getElem_toArray, List.getElem_cons_succ, List.getElem_cons_zero, List.setIfInBounds_toArray, List.set_cons_zero, List.set_cons_succ]
  refine wpAnyH_take (i := 13) (v := .agg (xcells x3 u3).toArray) rfl (by kernel_rfl) (by kernel_rfl) (by kernel_rfl) (fun _ _ _ h => h) (yieldsIf_load_mid (by rfl) 26 _ rfl (n3) (0) rfl (xcells x3 u3) _ (fun w h => rangeAt_later R3.out.1 h) Try.underlying26 rfl sizeIE2) hHeld ?_
  simp only [Act.put, List.getElem_toArray, List.getElem_cons_succ, List.getElem_cons_zero, List.setIfInBounds_toArray, List.set_cons_zero, List.set_cons_succ]
  refine wpAnyH_take (i := 14) (v := .agg (xcells y3 z3).toArray) rfl (by kernel_rfl) (by kernel_rfl) (by kernel_rfl) (fun _ _ _ h => h) (yieldsIf_load_mid (by rfl) 26 _ rfl (n3 + 1) (0) rfl (xcells y3 z3) _ (fun w h => rangeAt_later R3.out.2 h) Try.underlying26 rfl sizeIE2) hHeld ?_
  simp only [Act.put, List.getElem_toArray, List.getElem_cons_succ, List.getElem_cons_zero, List.setIfInBounds_toArray, List.set_cons_zero, List.set_cons_succ]
  refine wpAnyH_take (i := 16) (v := .agg (xcells x3 u3).toArray) rfl (by kernel_rfl) (by kernel_rfl) (by kernel_rfl) (fun _ _ _ h => h) (yieldsIf_load_mid (by rfl) 26 _ rfl (n3) (0) rfl (xcells x3 u3) _ (fun w h => rangeAt_later R3.out.1 h) Try.underlying26 rfl sizeIE2) hHeld ?_
  simp only [Act.put, List.getElem_toArray, List.getElem_cons_succ, List.getElem_cons_zero, List.setIfInBounds_toArray, List.set_cons_zero, List.set_cons_succ]
  refine wpAnyH_take (i := 17) (v := .agg (xcells y3 z3).toArray) rfl (by kernel_rfl) (by kernel_rfl) (by kernel_rfl) (fun _ _ _ h => h) (yieldsIf_load_mid (by rfl) 26 _ rfl (n3 + 1) (0) rfl (xcells y3 z3) _ (fun w h => rangeAt_later R3.out.2 h) Try.underlying26 rfl sizeIE2) hHeld ?_
  simp only [Act.put, List.getElem_toArray, List.getElem_cons_succ, List.getElem_cons_zero, List.setIfInBounds_toArray, List.set_cons_zero, List.set_cons_succ]
  refine wpAnyH_ready (rs := [15]) (by kernel_rfl) (by simp) ?_
  refine AllReadyH.cons rfl (fun K hK => ?_) AllReadyH.nil
  rw [if_pos (by rfl)]
  simp only [List.getElem_toArray, List.getElem_cons_succ, List.getElem_cons_zero]
  go_wp2_with fail
  refine (J5.out _ hHeld).mono ?_
  rintro e w20 ⟨rfl, hb20⟩
  go_wp2_with fail
  refine hK.out _ _ (hHeld.trans (hb20.mono hHeld.size)) (fun hHeld => ?_)
  try simp only [Act.put, List.getElem_toArray, List.getElem_cons_succ, List.getElem_cons_zero, List.setIfInBounds_toArray, List.set_cons_zero, List.set_cons_succ]
  refine wpAnyH_ready (rs := [18]) (by kernel_rfl) (by simp) ?_
  refine AllReadyH.cons rfl (fun K hK => ?_) AllReadyH.nil
  rw [if_pos (by rfl)]
  simp only [List.getElem_toArray, List.getElem_cons_succ, List.getElem_cons_zero]
  go_wp2_with fail
  refine (J6.out _ hHeld).mono ?_
  rintro e w21 ⟨rfl, hb21⟩
  go_wp2_with fail
  refine hK.out _ _ (hHeld.trans (hb21.mono hHeld.size)) (fun hHeld => ?_)
  try simp only [Act.put, List.getElem_toArray, List.getElem_cons_succ, List.getElem_cons_zero, List.setIfInBounds_toArray, List.set_cons_zero, List.set_cons_succ]
  refine wpAnyH_take (i := 19) (v := .bool true) rfl (by kernel_rfl) (by kernel_rfl) (by kernel_rfl) (fun _ _ _ h => h) (Or.inl ⟨by rfl, ?yk19⟩) hHeld ?_
  case yk19 => intro w hSw; go_simp
  simp only [Act.put, List.getElem_toArray, List.getElem_cons_succ, List.getElem_cons_zero, List.setIfInBounds_toArray, List.set_cons_zero, List.set_cons_succ]
  refine wpAnyH_take (i := 20) (v := .bool true) rfl (by kernel_rfl) (by kernel_rfl) (by kernel_rfl) (fun _ _ _ h => h) (Or.inl ⟨by rfl, ?yk20⟩) hHeld ?_
  case yk20 => intro w hSw; go_simp
  simp only [Act.put, List.getElem_toArray, List.getElem_cons_succ, List.getElem_cons_zero, List.setIfInBounds_toArray, List.set_cons_zero, List.set_cons_succ]
  refine wpAnyH_take (i := 21) (v := .bool true) rfl (by kernel_rfl) (by kernel_rfl) (by kernel_rfl) (fun _ _ _ h => h) (Or.inl ⟨by rfl, ?yk21⟩) hHeld ?_
  case yk21 => intro w hSw; go_simp
  simp only [Act.put, List.getElem_toArray, List.getElem_cons_succ, List.getElem_cons_zero, List.setIfInBounds_toArray, List.set_cons_zero, List.set_cons_succ]
  refine wpAnyH_take (i := 22) (v := .agg (C).toArray) rfl (by kernel_rfl) (by kernel_rfl) (by kernel_rfl) (fun _ _ _ h => h) (yieldsIf_load_mid (by rfl) 30 _ rfl (n4) (0) rfl (C) _ (fun w h => rangeAt_later R4.out.1 h) Try.underlying30 rfl (by rw [lnC]; exact sizeIS)) hHeld ?_
  simp only [Act.put, List.getElem_toArray, List.getElem_cons_succ, List.getElem_cons_zero, List.setIfInBounds_toArray, List.set_cons_zero, List.set_cons_succ]
  refine wpAnyH_take (i := 23) (v := .agg (D).toArray) rfl (by kernel_rfl) (by kernel_rfl) (by kernel_rfl) (fun _ _ _ h => h) (yieldsIf_load_mid (by rfl) 30 _ rfl (n4 + 1) (0) rfl (D) _ (fun w h => rangeAt_later R4.out.2 h) Try.underlying30 rfl (by rw [lnD]; exact sizeIS)) hHeld ?_
  simp only [Act.put, List.getElem_toArray, List.getElem_cons_succ, List.getElem_cons_zero, List.setIfInBounds_toArray, List.set_cons_zero, List.set_cons_succ]
  refine wpAnyH_take (i := 25) (v := .agg (C).toArray) rfl (by kernel_rfl) (by kernel_rfl) (by kernel_rfl) (fun _ _ _ h => h) (yieldsIf_load_mid (by rfl) 30 _ rfl (n4) (0) rfl (C) _ (fun w h => rangeAt_later R4.out.1 h) Try.underlying30 rfl (by rw [lnC]; exact sizeIS)) hHeld ?_
  simp only [Act.put, List.getElem_toArray, List.getElem_cons_succ, List.getElem_cons_zero, List.setIfInBounds_toArray, List.set_cons_zero, List.set_cons_succ]
  refine wpAnyH_take (i := 26) (v := .agg (D).toArray) rfl (by kernel_rfl) (by kernel_rfl) (by kernel_rfl) (fun _ _ _ h => h) (yieldsIf_load_mid (by rfl) 30 _ rfl (n4 + 1) (0) rfl (D) _ (fun w h => rangeAt_later R4.out.2 h) Try.underlying30 rfl (by rw [lnD]; exact sizeIS)) hHeld ?_
  simp only [Act.put, List.getElem_toArray, List.getElem_cons_succ, List.getElem_cons_zero, List.setIfInBounds_toArray, List.set_cons_zero, List.set_cons_succ]
  refine wpAnyH_ready (rs := [24]) (by kernel_rfl) (by simp) ?_
  refine AllReadyH.cons rfl (fun K hK => ?_) AllReadyH.nil
  rw [if_pos (by rfl)]
  simp only [List.getElem_toArray, List.getElem_cons_succ, List.getElem_cons_zero]
  go_wp2_with fail
  refine (J7.out _ hHeld).mono ?_
  rintro e w22 ⟨rfl, hb22⟩
  go_wp2_with fail
  refine hK.out _ _ (hHeld.trans (hb22.mono hHeld.size)) (fun hHeld => ?_)
  try simp only [Act.put, List.getElem_toArray, List.getElem_cons_succ, List.getElem_cons_zero, List.setIfInBounds_toArray, List.set_cons_zero, List.set_cons_succ]
  refine wpAnyH_ready (rs := [27]) (by kernel_rfl) (by simp) ?_
  refine AllReadyH.cons rfl (fun K hK => ?_) AllReadyH.nil
  rw [if_pos (by rfl)]
  simp only [List.getElem_toArray, List.getElem_cons_succ, List.getElem_cons_zero]
  go_wp2_with fail
  refine (J8.out _ hHeld).mono ?_
  rintro e w23 ⟨rfl, hb23⟩
  go_wp2_with fail
  refine hK.out _ _ (hHeld.trans (hb23.mono hHeld.size)) (fun hHeld => ?_)
  try simp only [Act.put, List.getElem_toArray, List.getElem_cons_succ, List.getElem_cons_zero, List.setIfInBounds_toArray, List.set_cons_zero, List.set_cons_succ]
  refine wpAnyH_take (i := 28) (v := .bool true) rfl (by kernel_rfl) (by kernel_rfl) (by kernel_rfl) (fun _ _ _ h => h) (Or.inl ⟨by rfl, ?yk28⟩) hHeld ?_
  case yk28 => intro w hSw; go_simp
  simp only [Act.put, List.getElem_toArray, List.getElem_cons_succ, List.getElem_cons_zero, List.setIfInBounds_toArray, List.set_cons_zero, List.set_cons_succ]
  refine wpAnyH_take (i := 29) (v := .bool true) rfl (by kernel_rfl) (by kernel_rfl) (by kernel_rfl) (fun _ _ _ h => h) (Or.inl ⟨by rfl, ?yk29⟩) hHeld ?_
  case yk29 => intro w hSw; go_simp
  simp only [Act.put, List.getElem_toArray, List.getElem_cons_succ, List.getElem_cons_zero, List.setIfInBounds_toArray, List.set_cons_zero, List.set_cons_succ]
  refine wpAnyH_take (i := 30) (v := .bool true) rfl (by kernel_rfl) (by kernel_rfl) (by kernel_rfl) (fun _ _ _ h => h) (Or.inl ⟨by rfl, ?yk30⟩) hHeld ?_
  case yk30 => intro w hSw; go_simp
  simp only [Act.put, List.getElem_toArray, List.getElem_cons_succ, List.getElem_cons_zero, List.setIfInBounds_toArray, List.set_cons_zero, List.set_cons_succ]
  refine wpAnyH_take (i := 31) (v := .slice fa (slen F) fc) rfl (by kernel_rfl) (by kernel_rfl) (by kernel_rfl) (fun _ _ _ h => h) (Or.inl ⟨by rfl, ?yk31⟩) hHeld ?_
  case yk31 => intro w hSw; go_simp
  simp only [Act.put, List.getElem_toArray, List.getElem_cons_succ, List.getElem_cons_zero, List.setIfInBounds_toArray, List.set_cons_zero, List.set_cons_succ]
  refine wpAnyH_take (i := 33) (v := .slice fa (slen F) fc) rfl (by kernel_rfl) (by kernel_rfl) (by kernel_rfl) (fun _ _ _ h => h) (Or.inl ⟨by rfl, ?yk33⟩) hHeld ?_
  case yk33 => intro w hSw; go_simp
  simp only [Act.put, List.getElem_toArray, List.getElem_cons_succ, List.getElem_cons_zero, List.setIfInBounds_toArray, List.set_cons_zero, List.set_cons_succ]
  refine wpAnyH_ready (rs := [32]) (by kernel_rfl) (by simp) ?_
  refine AllReadyH.cons rfl (fun K hK => ?_) AllReadyH.nil
  rw [if_pos (by rfl)]
  simp only [List.getElem_toArray, List.getElem_cons_succ, List.getElem_cons_zero]
  go_wp2_with fail
  refine (J9.out _ hHeld).mono ?_
  rintro e w24 ⟨rfl, hb24⟩
  go_wp2_with fail
  refine hK.out _ _ (hHeld.trans (hb24.mono hHeld.size)) (fun hHeld => ?_)
  try simp only [Act.put, List.getElem_toArray, List.getElem_cons_succ, List.getElem_cons_zero, List.setIfInBounds_toArray, List.set_cons_zero, List.set_cons_succ]
  refine wpAnyH_ready (rs := [34]) (by kernel_rfl) (by simp) ?_
  refine AllReadyH.cons rfl (fun K hK => ?_) AllReadyH.nil
  rw [if_pos (by rfl)]
  simp only [List.getElem_toArray, List.getElem_cons_succ, List.getElem_cons_zero]
  go_wp2_with fail
  refine (J10.out _ hHeld).mono ?_
  rintro e w25 ⟨rfl, hb25⟩
  go_wp2_with fail
  refine hK.out _ _ (hHeld.trans (hb25.mono hHeld.size)) (fun hHeld => ?_)
  try simp only [Act.put, List.getElem_toArray, List.getElem_cons_succ, List.getElem_cons_zero, List.setIfInBounds_toArray, List.set_cons_zero, List.set_cons_succ]
  refine wpAnyH_take (i := 35) (v := .bool true) rfl (by kernel_rfl) (by kernel_rfl) (by kernel_rfl) (fun _ _ _ h => h) (Or.inl ⟨by rfl, ?yk35⟩) hHeld ?_
  case yk35 => intro w hSw; go_simp
  simp only [Act.put, List.getElem_toArray, List.getElem_cons_succ, List.getElem_cons_zero, List.setIfInBounds_toArray, List.set_cons_zero, List.set_cons_succ]
  refine wpAnyH_take (i := 36) (v := .bool true) rfl (by kernel_rfl) (by kernel_rfl) (by kernel_rfl) (fun _ _ _ h => h) (Or.inl ⟨by rfl, ?yk36⟩) hHeld ?_
  case yk36 => intro w hSw; go_simp
  simp only [Act.put, List.getElem_toArray, List.getElem_cons_succ, List.getElem_cons_zero, List.setIfInBounds_toArray, List.set_cons_zero, List.set_cons_succ]
  refine wpAnyH_take (i := 37) (v := .bool true) rfl (by kernel_rfl) (by kernel_rfl) (by kernel_rfl) (fun _ _ _ h => h) (Or.inl ⟨by rfl, ?yk37⟩) hHeld ?_
  case yk37 => intro w hSw; go_simp
  simp only [Act.put, List.getElem_toArray, List.getElem_cons_succ, List.getElem_cons_zero, List.setIfInBounds_toArray, List.set_cons_zero, List.set_cons_succ]
  refine wpAnyH_take (i := 38) (v := .slice fa (slen F) fc) rfl (by kernel_rfl) (by kernel_rfl) (by kernel_rfl) (fun _ _ _ h => h) (Or.inl ⟨by rfl, ?yk38⟩) hHeld ?_
  case yk38 => intro w hSw; go_simp
  simp only [Act.put, List.getElem_toArray, List.getElem_cons_succ, List.getElem_cons_zero, List.setIfInBounds_toArray, List.set_cons_zero, List.set_cons_succ]
  refine wpAnyH_take (i := 40) (v := .slice fa (slen F) fc) rfl (by kernel_rfl) (by kernel_rfl) (by kernel_rfl) (fun _ _ _ h => h) (Or.inl ⟨by rfl, ?yk40⟩) hHeld ?_
  case yk40 => intro w hSw; go_simp
  simp only [Act.put, List.getElem_toArray, List.getElem_cons_succ, List.getElem_cons_zero, List.setIfInBounds_toArray, List.set_cons_zero, List.set_cons_succ]
  refine wpAnyH_take (i := 41) (v := .int .i64 (slen F : Int)) rfl (by kernel_rfl) (by kernel_rfl) (by kernel_rfl) (fun _ _ _ h => h) (Or.inl ⟨by rfl, ?yk41⟩) hHeld ?_
  case yk41 => intro w hSw; go_simp
  simp only [Act.put, List.getElem_toArray, List.getElem_cons_succ, List.getElem_cons_zero, List.setIfInBounds_toArray, List.set_cons_zero, List.set_cons_succ]
  refine wpAnyH_ready (rs := [39]) (by kernel_rfl) (by simp) ?_
  refine AllReadyH.cons rfl (fun K hK => ?_) AllReadyH.nil
  rw [if_pos (by rfl)]
  simp only [List.getElem_toArray, List.getElem_cons_succ, List.getElem_cons_zero]
  go_wp2_with fail
  refine (J9.out _ hHeld).mono ?_
  rintro e w26 ⟨rfl, hb26⟩
  go_wp2_with fail
  refine hK.out _ _ (hHeld.trans (hb26.mono hHeld.size)) (fun hHeld => ?_)
  try simp only [Act.put, List.getElem_toArray, List.getElem_cons_succ, List.getElem_cons_zero, List.setIfInBounds_toArray, List.set_cons_zero, List.set_cons_succ]
  refine wpAnyH_take (i := 42) (v := .bool true) rfl (by kernel_rfl) (by kernel_rfl) (by kernel_rfl) (fun _ _ _ h => h) (Or.inl ⟨by rfl, ?yk42⟩) hHeld ?_
  case yk42 => intro w hSw; go_simp
  simp only [Act.put, List.getElem_toArray, List.getElem_cons_succ, List.getElem_cons_zero, List.setIfInBounds_toArray, List.set_cons_zero, List.set_cons_succ]
  refine wpAnyH_take (i := 43) (v := .bool true) rfl (by kernel_rfl) (by kernel_rfl) (by kernel_rfl) (fun _ _ _ h => h) (Or.inl ⟨by rfl, ?yk43⟩) hHeld ?_
  case yk43 => intro w hSw; go_simp
  simp only [Act.put, List.getElem_toArray, List.getElem_cons_succ, List.getElem_cons_zero, List.setIfInBounds_toArray, List.set_cons_zero, List.set_cons_succ]
  refine wpAnyH_take (i := 44) (v := .bool true) rfl (by kernel_rfl) (by kernel_rfl) (by kernel_rfl) (fun _ _ _ h => h) (Or.inl ⟨by rfl, ?yk44⟩) hHeld ?_
  case yk44 => intro w hSw; go_simp
  simp only [Act.put, List.getElem_toArray, List.getElem_cons_succ, List.getElem_cons_zero, List.setIfInBounds_toArray, List.set_cons_zero, List.set_cons_succ]
  refine wpAnyH_take (i := 45) (v := .agg (xcells x3 u3).toArray) rfl (by kernel_rfl) (by kernel_rfl) (by kernel_rfl) (fun _ _ _ h => h) (yieldsIf_load_mid (by rfl) 26 _ rfl (n3) (0) rfl (xcells x3 u3) _ (fun w h => rangeAt_later R3.out.1 h) Try.underlying26 rfl sizeIE2) hHeld ?_
  simp only [Act.put, List.getElem_toArray, List.getElem_cons_succ, List.getElem_cons_zero, List.setIfInBounds_toArray, List.set_cons_zero, List.set_cons_succ]
  refine wpAnyH_take (i := 46) (v := .agg (xcells x3 u3).toArray) rfl (by kernel_rfl) (by kernel_rfl) (by kernel_rfl) (fun _ _ _ h => h) (yieldsIf_load_mid (by rfl) 26 _ rfl (n3) (0) rfl (xcells x3 u3) _ (fun w h => rangeAt_later R3.out.1 h) Try.underlying26 rfl sizeIE2) hHeld ?_
  simp only [Act.put, List.getElem_toArray, List.getElem_cons_succ, List.getElem_cons_zero, List.setIfInBounds_toArray, List.set_cons_zero, List.set_cons_succ]
  refine wpAnyH_ready (rs := [47]) (by kernel_rfl) (by simp) ?_
  refine AllReadyH.cons rfl (fun K hK => ?_) AllReadyH.nil
  rw [if_pos (by rfl)]
  simp only [List.getElem_toArray, List.getElem_cons_succ, List.getElem_cons_zero]
  go_wp2_with fail
  refine (J11.out _ hHeld).mono ?_
  rintro e w27 ⟨rfl, hb27⟩
  go_wp2_with fail
  refine hK.out _ _ (hHeld.trans (hb27.mono hHeld.size)) (fun hHeld => ?_)
  try simp only [Act.put, List.getElem_toArray, List.getElem_cons_succ, List.getElem_cons_zero, List.setIfInBounds_toArray, List.set_cons_zero, List.set_cons_succ]
  refine wpAnyH_take (i := 48) (v := .bool true) rfl (by kernel_rfl) (by kernel_rfl) (by kernel_rfl) (fun _ _ _ h => h) (Or.inl ⟨by rfl, ?yk48⟩) hHeld ?_
  case yk48 => intro w hSw; go_simp
  simp only [Act.put, List.getElem_toArray, List.getElem_cons_succ, List.getElem_cons_zero, List.setIfInBounds_toArray, List.set_cons_zero, List.set_cons_succ]
  refine wpAnyH_take (i := 49) (v := .bool true) rfl (by kernel_rfl) (by kernel_rfl) (by kernel_rfl) (fun _ _ _ h => h) (Or.inl ⟨by rfl, ?yk49⟩) hHeld ?_
  case yk49 => intro w hSw; go_simp
  simp only [Act.put, List.getElem_toArray, List.getElem_cons_succ, List.getElem_cons_zero, List.setIfInBounds_toArray, List.set_cons_zero, List.set_cons_succ]
  refine wpAnyH_take (i := 50) (v := .agg (C).toArray) rfl (by kernel_rfl) (by kernel_rfl) (by kernel_rfl) (fun _ _ _ h => h) (yieldsIf_load_mid (by rfl) 30 _ rfl (n4) (0) rfl (C) _ (fun w h => rangeAt_later R4.out.1 h) Try.underlying30 rfl (by rw [lnC]; exact sizeIS)) hHeld ?_
  simp only [Act.put, List.getElem_toArray, List.getElem_cons_succ, List.getElem_cons_zero, List.setIfInBounds_toArray, List.set_cons_zero, List.set_cons_succ]
  refine wpAnyH_take (i := 51) (v := .agg (C).toArray) rfl (by kernel_rfl) (by kernel_rfl) (by kernel_rfl) (fun _ _ _ h => h) (yieldsIf_load_mid (by rfl) 30 _ rfl (n4) (0) rfl (C) _ (fun w h => rangeAt_later R4.out.1 h) Try.underlying30 rfl (by rw [lnC]; exact sizeIS)) hHeld ?_
  simp only [Act.put, List.getElem_toArray, List.getElem_cons_succ, List.getElem_cons_zero, List.setIfInBounds_toArray, List.set_cons_zero, List.set_cons_succ]
  refine wpAnyH_ready (rs := [52]) (by kernel_rfl) (by simp) ?_
  refine AllReadyH.cons rfl (fun K hK => ?_) AllReadyH.nil
  rw [if_pos (by rfl)]
  simp only [List.getElem_toArray, List.getElem_cons_succ, List.getElem_cons_zero]
  go_wp2_with fail
  refine (J12.out _ hHeld).mono ?_
  rintro e w28 ⟨rfl, hb28⟩
  go_wp2_with fail
  refine hK.out _ _ (hHeld.trans (hb28.mono hHeld.size)) (fun hHeld => ?_)
  try simp only [Act.put, List.getElem_toArray, List.getElem_cons_succ, List.getElem_cons_zero, List.setIfInBounds_toArray, List.set_cons_zero, List.set_cons_succ]
  refine wpAnyH_take (i := 53) (v := .bool true) rfl (by kernel_rfl) (by kernel_rfl) (by kernel_rfl) (fun _ _ _ h => h) (Or.inl ⟨by rfl, ?yk53⟩) hHeld ?_
  case yk53 => intro w hSw; go_simp
  simp only [Act.put, List.getElem_toArray, List.getElem_cons_succ, List.getElem_cons_zero, List.setIfInBounds_toArray, List.set_cons_zero, List.set_cons_succ]
  refine wpAnyH_take (i := 54) (v := .bool true) rfl (by kernel_rfl) (by kernel_rfl) (by kernel_rfl) (fun _ _ _ h => h) (Or.inl ⟨by rfl, ?yk54⟩) hHeld ?_
  case yk54 => intro w hSw; go_simp
  simp only [Act.put, List.getElem_toArray, List.getElem_cons_succ, List.getElem_cons_zero, List.setIfInBounds_toArray, List.set_cons_zero, List.set_cons_succ]
  refine wpAnyH_done (by kernel_rfl) ?_ _
  have BB := Lib.hid (BF.out.trans (hHeld.mono BF.out.size))
  clear hHeld bd
  go_wp2
  go_ret
  exact ⟨rfl, BB.out⟩
end Go.Proofs.Ytkhccpjkajhnpaa
