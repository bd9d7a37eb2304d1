/-
  The contracts of szExp, szExpS, szStmt, szStmtS: how much an argument holds, or -1 where it is more than is left.
-/
import Derived.Test.YthokildkedlkfaaAstPlain
namespace Go.Proofs.Ythokildkedlkfaa
open Go.RowKit Go.Lib
set_option linter.unusedSimpArgs false
set_option linter.unusedVariables false

/-- Every slice and string of what came in has a length that an int holds. -/
def eok : EF → Prop
  | .nil => True
  | .node _ _ h l r => h.s.size ≤ 9223372036854775807 ∧ elen l ≤ 9223372036854775807 ∧ eok l ∧ eok r
def xok (x : X) : Prop := x.h.s.size ≤ 9223372036854775807 ∧ elen x.l ≤ 9223372036854775807 ∧ eok x.l
def sok : SF → Prop
  | .nil => True
  | .node _ _ h l r => h.s.size ≤ 9223372036854775807 ∧ xok h.x1 ∧ xok h.x2 ∧ xok h.x3 ∧ xok h.x4 ∧ slen l ≤ 9223372036854775807 ∧ sok l ∧ sok r
theorem val_intA {a b : Int} (h : a = b) : (Value.int .i64 a) = .int .i64 b := by rw [h]
/-- What is answered where n is to be taken from what is left. -/
def Sz (n : Nat) (left : Int) (w : World) (e : Ending) (w' : World) : Prop := e = .returned (.int .i64 (if left < (n : Int) then -1 else left - n)) ∧ Below w.heap.size w w'
theorem Sz.less {n : Nat} {left : Int} {w w' : World} (h : left < (n : Int)) (hb : Below w.heap.size w w') : Sz n left w (.returned (.int .i64 (-1))) w' := ⟨by rw [if_pos h], hb⟩
theorem Sz.more {n : Nat} {left r : Int} {w w' : World} (h : ¬ left < (n : Int)) (hr : r = left - n) (hb : Below w.heap.size w w') : Sz n left w (.returned (.int .i64 r)) w' := ⟨by rw [if_neg h, hr], hb⟩
/-- A cell of a block that was just laid, behind a call that turned nothing of it. -/
theorem box_cell {w w1 : World} {arr : Array Value} {t : TypeId} {i : Nat} {v : Value} (hb : Below (w.alloc (.cells arr t)).heap.size (w.alloc (.cells arr t)) w1) (hi : arr[i]? = some v) : w1.cell? ⟨w.heap.size, i, Option.none⟩ = some v := by
  have e : (w.alloc (.cells arr t)).heap = w.heap.push (.cells arr t (0, 0)) := rfl
  have e2 : w1.heap[w.heap.size]? = some (.cells arr t (0, 0)) := by rw [hb.block w.heap.size (by rw [e]; simp), e]; simp
  simp only [World.cell?, e2]; exact hi
theorem below_alloc {w w1 : World} {o : Obj} (hb : Below (w.alloc o).heap.size (w.alloc o) w1) : Below w.heap.size w w1 :=
  ((Below.refl _ w).alloc (Nat.le_refl _) o).trans (hb.mono (by simp))
theorem alloc_below (w : World) (o : Obj) : Below w.heap.size w (w.alloc o) := (Below.refl _ w).alloc (Nat.le_refl _) o
set_option maxHeartbeats 1000000 in
theorem szExp_of (x : X) (hs : x.h.s.size ≤ 9223372036854775807)
    (ih : ∀ (w : World) (v : Value) (left : Int), EV w 0 x.l v → 0 ≤ left → left ≤ 1048576 → Calls Try.prog 66 #[v, .int .i64 left] w (Sz (esize x.l) left w))
    (w : World) (v : Value) (left : Int) (hv : EV w 0 x.l v) (h0 : 0 ≤ left) (h1 : left ≤ 1048576) :
    Calls Try.prog 52 #[.agg #[.int .i64 x.h.k, .int .i64 x.h.n, .string x.h.s, v], .int .i64 left] w (Sz (xsize x) left w) := by
  have Hx : Hid (xsize x = x.h.s.size + esize x.l) := show xsize x = x.h.s.size + esize x.l from rfl
  have hsI : (x.h.s.size : Int) ≤ 9223372036854775807 := by omega
  by_cases h : left < (x.h.s.size : Int)
  · have h' : left - (x.h.s.size : Int) < 0 := by omega
    clear ih
    go_enter Try.func52, Try.ntmps52
    go_wp2
    all_goals first
      | omega
      | (go_ret; exact Sz.less (by rw [Hx.out]; omega) (alloc_below _ _))
  · have h' : ¬ left - (x.h.s.size : Int) < 0 := by omega
    have Hih := Lib.hid ih
    clear ih
    obtain ⟨a, c, rfl⟩ := hv.shape
    have hv1 := hv.later (alloc_below w (.cells #[.int .i64 x.h.k, .int .i64 x.h.n, .string x.h.s, .slice a (elen x.l) c] 50))
    by_cases hd : left - (x.h.s.size : Int) < (esize x.l : Int)
    · go_enter Try.func52, Try.ntmps52
      go_wp2_with fail
      all_goals try omega
      refine (Hih.out _ _ _ hv1 (by omega) (by omega)).mono ?_
      rintro e w1 ⟨rfl, hb1⟩
      rw [if_pos hd]
      have hb := below_alloc hb1
      clear hb1 hv1
      go_wp2
      go_ret
      exact Sz.less (by rw [Hx.out]; omega) hb
    · have hd' : ¬ left - (x.h.s.size : Int) - (esize x.l : Int) < 0 := by omega
      go_enter Try.func52, Try.ntmps52
      go_wp2_with fail
      all_goals try omega
      refine (Hih.out _ _ _ hv1 (by omega) (by omega)).mono ?_
      rintro e w1 ⟨rfl, hb1⟩
      rw [if_neg (by omega)]
      have hb := below_alloc hb1
      clear hb1 hv1
      go_wp2
      go_ret
      exact Sz.more (by rw [Hx.out]; omega) (by rw [Hx.out]; omega) hb
set_option maxHeartbeats 2000000 in
theorem szExpS_step (F : EF) (hF : eok F) (hM : elen F ≤ 9223372036854775807)
    (ih : ∀ l : EF, enodes l < enodes F → eok l → elen l ≤ 9223372036854775807 → ∀ (w : World) (v : Value) (left : Int), EV w 0 l v → 0 ≤ left → left ≤ 1048576 → Calls Try.prog 66 #[v, .int .i64 left] w (Sz (esize l) left w))
    (w : World) (v : Value) (left : Int) (hv : EV w 0 F v) (h0 : 0 ≤ left) (h1 : left ≤ 1048576) :
    Calls Try.prog 66 #[v, .int .i64 left] w (Sz (esize F) left w) := by
  have Hb : Hid (esize F = elen F + ebulk F) := esize_bulk F
  have hMI : (elen F : Int) ≤ 9223372036854775807 := by omega
  obtain ⟨b, o, ao, cap, rfl, hao, _, hin⟩ := hv
  have Hih := Lib.hid ih
  clear ih
  by_cases hbig : left < (elen F : Int)
  · have hb' : left - (elen F : Int) < 0 := by omega
    go_enter Try.func66, Try.ntmps66
    go_wp2
    all_goals first
      | omega
      | (go_ret; exact Sz.less (by rw [Hb.out]; omega) (Below.refl _ _))
  · have hb' : ¬ left - (elen F : Int) < 0 := by omega
    obtain ⟨L0, hL0⟩ : ∃ L0 : Nat, left = (L0 : Int) := ⟨left.toNat, by omega⟩
    subst hL0
    go_enter Try.func66, Try.ntmps66
    go_wp2
    go_loopw [1, 5] (fun x i wr => ∃ (R : EF) (k L : Nat), i = .int .i64 k ∧ x = .int .i64 (L : Int) ∧ Hid (k + elen R = elen F ∧ enodes R ≤ enodes F ∧ eok R ∧ L + elen F + ebulk F = L0 + ebulk R ∧ L ≤ L0) ∧ EIn w 0 R b (o + k * 4) ∧ Below w.heap.size w wr) (fun _ i _ => elen F - (RowKit.intOf i).toNat)
    case atStart => exact ⟨F, 0, L0 - elen F, rfl, val_intA (by omega), ⟨by omega, Nat.le_refl _, hF, by omega, by omega⟩, by simpa using hin, Below.refl _ _⟩
    case round =>
      obtain ⟨R, k, L, rfl, rfl, hr, hinR, hbw⟩ := hrel
      obtain ⟨e1, e2, e3, e4, e5⟩ := hr.out
      cases R with
      | nil =>
        have hk : ¬ (k : Int) < (elen F : Int) := by simp only [elen] at e1; omega
        simp only [ebulk] at e4
        go_wp2
        go_ret
        exact Sz.more (by rw [Hb.out]; omega) (by rw [Hb.out]; omega) hbw
      | node p q h l r =>
        have hlt : (k : Int) < (elen F : Int) := by simp only [elen] at e1; omega
        rcases hao with rfl | hnil
        · obtain ⟨⟨a0, a1, a2, u, a3, hu⟩, hinr⟩ := EIn_node.1 (EIn_later hbw _ _ _ hinR)
          have hinr0 := (EIn_node.1 hinR).2
          obtain ⟨f1, f2, f3, f4⟩ := e3
          simp only [enodes] at e2
          have Hl := Lib.hid (fun w v left => Hih.out l (by omega) f3 f2 w v left)
          have hL0 : (0 : Int) ≤ (L : Int) := by omega
          have hL1 : (L : Int) ≤ 1048576 := by omega
          have He : Hid (L + elen F + ebulk F = L0 + (h.s.size + esize l + ebulk r) ∧ enodes r ≤ enodes F ∧ eok r ∧ k + (elen r + 1) = elen F ∧ L ≤ L0) := ⟨e4, by omega, f4, e1, e5⟩
          clear hr hinR e1 e2 e4 e5 hinr hin
          by_cases hd : (L : Int) < (xsize ⟨h, l⟩ : Int)
          · go_wp2_with fail
            refine (szExp_of ⟨h, l⟩ f1 Hl.out _ u (L : Int) hu hL0 hL1).mono ?_
            rintro e w1 ⟨rfl, hb1⟩
            rw [if_pos hd]
            have hbw1 := hbw.trans (hb1.mono hbw.size)
            clear hb1 hbw a0 a1 a2 a3
            go_wp2
            go_ret
            refine Sz.less ?_ hbw1
            rw [Hb.out]; have := He.out.1; simp only [xsize] at hd; omega
          · have hnn : ¬ (L : Int) - (xsize ⟨h, l⟩ : Int) < 0 := by omega
            go_wp2_with fail
            refine (szExp_of ⟨h, l⟩ f1 Hl.out _ u (L : Int) hu hL0 hL1).mono ?_
            rintro e w1 ⟨rfl, hb1⟩
            rw [if_neg (by omega)]
            have hbw1 := hbw.trans (hb1.mono hbw.size)
            clear hb1 hbw a0 a1 a2 a3
            go_wp2
            go_roundw
            case rel =>
              refine ⟨r, k + 1, L - xsize ⟨h, l⟩, by go_num, val_intA (by omega), ?_, by rw [show o + (k + 1) * 4 = o + k * 4 + 4 by omega]; exact hinr0, hbw1⟩
              obtain ⟨g1, g2, g3, g4, g5⟩ := He.out
              simp only [xsize] at hd hnn ⊢
              exact ⟨by omega, g2, g3, by omega, by omega⟩
            case measure => simp [RowKit.intOf]; omega
        · subst hnil; simp only [elen] at e1; omega
theorem szExpS_all : ∀ (n : Nat) (F : EF), enodes F < n → eok F → elen F ≤ 9223372036854775807 → ∀ (w : World) (v : Value) (left : Int), EV w 0 F v → 0 ≤ left → left ≤ 1048576 → Calls Try.prog 66 #[v, .int .i64 left] w (Sz (esize F) left w)
  | 0, _, h, _, _, _, _, _, _, _, _ => absurd h (by omega)
  | n + 1, F, h, hF, hM, w, v, left, hv, h0, h1 => szExpS_step F hF hM (fun l hl hk hm w v left a b c => szExpS_all n l (by omega) hk hm w v left a b c) w v left hv h0 h1
theorem szExpS_is (F : EF) (hF : eok F) (hM : elen F ≤ 9223372036854775807) (w : World) (v : Value) (left : Int) (hv : EV w 0 F v) (h0 : 0 ≤ left) (h1 : left ≤ 1048576) :
    Calls Try.prog 66 #[v, .int .i64 left] w (Sz (esize F) left w) := szExpS_all _ F (Nat.lt_succ_self _) hF hM w v left hv h0 h1
theorem szExp_is (x : X) (hx : xok x) (w : World) (v : Value) (left : Int) (hv : EV w 0 x.l v) (h0 : 0 ≤ left) (h1 : left ≤ 1048576) :
    Calls Try.prog 52 #[.agg #[.int .i64 x.h.k, .int .i64 x.h.n, .string x.h.s, v], .int .i64 left] w (Sz (xsize x) left w) :=
  szExp_of x hx.1 (fun w v left a b c => szExpS_is x.l hx.2.2 hx.2.1 w v left a b c) w v left hv h0 h1
end Go.Proofs.Ythokildkedlkfaa
