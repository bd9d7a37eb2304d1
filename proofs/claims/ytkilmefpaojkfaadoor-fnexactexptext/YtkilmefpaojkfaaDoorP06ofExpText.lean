/-
  Texts in one: AstExpOk, TxtPlain.
-/
import Derived.Test.YtkilmefpaojkfaaDoorP05ofExpText
import Derived.Test.YtkilmefpaojkfaaDoorP00ofExpText
import Derived.Lib.ItoaLen
/-
  The contract of the landed code's ExpOk.
-/
namespace Go.Proofs.YtkilmefpaojkfaaDoor
open Go.RowKit Go.Lib
set_option linter.unusedSimpArgs false
set_option linter.unusedVariables false

theorem new_range (w : World) (arr : Array Value) (t : TypeId) : (w.alloc (.cells arr t)).rangeAt w.heap.size 0 arr.toList := blk_range (t := t) (fr := (0, 0)) (by show (w.heap.push _)[w.heap.size]? = _; simp)
def expOk (x : X) : Bool := toldX 8 x && decide (enodes x.l + 1 ≤ 60)
set_option maxHeartbeats 1000000 in
set_option maxRecDepth 100000 in
theorem impl_ExpOk (x : X) (hx : enodes x.l ≤ 9000000) (w : World) (v : Value) (hv : EV w 0 x.l v) :
    Calls Tryd.prog 13 #[.agg (xcells x v).toArray] w fun e w' => e = .returned (.bool (expOk x)) ∧ Below w.heap.size w w' := by
  show Calls Tryd.prog 13 #[.agg #[.int .i64 x.h.k, .int .i64 x.h.n, .string x.h.s, v]] w _
  have Hv := Lib.hid hv
  obtain ⟨va, vc, rfl⟩ := hv.shape
  obtain ⟨tv, htv⟩ : ∃ t, toldX 8 x = t := ⟨_, rfl⟩
  have Htv := Lib.hid htv
  have Hq : Hid (∀ w, EV w 0 x.l (.slice va (elen x.l) vc) → Calls Tryd.prog 19 #[.agg #[.int .i64 x.h.k, .int .i64 x.h.n, .string x.h.s, .slice va (elen x.l) vc], .int .i64 8] w fun e w' => e = .returned (.bool tv) ∧ Below w.heap.size w w') := fun w h => by rw [← htv]; exact expAsTold_all 8 (by omega) x w _ h
  have hb0 : Below w.heap.size w (w.alloc (.cells #[.int .i64 x.h.k, .int .i64 x.h.n, .string x.h.s, .slice va (elen x.l) vc] 29)) := alloc_below _ _
  clear hv htv
  go_enter Tryd.func13, Tryd.ntmps13
  go_wp2_with fail
  refine (Hq.out _ (Hv.out.later hb0)).mono ?_
  rintro e w1 ⟨rfl, hb1⟩
  have B1 := hb0.trans (hb1.mono hb0.size)
  cases tv with
  | false =>
    clear hb0 hb1
    go_wp2
    go_ret
    exact retB (by rw [expOk, Htv.out]; rfl) B1
  | true =>
    have c0 := box_cell (i := 0) hb1 rfl
    have c1 := box_cell (i := 1) hb1 rfl
    have c2 := box_cell (i := 2) hb1 rfl
    have c3 := box_cell (i := 3) hb1 rfl
    have V1 := Lib.hid (Hv.out.later B1)
    clear hb0 hb1
    go_wp2_with fail
    have V2 : EV (w1.alloc (.cells (xcells x (.slice va (elen x.l) vc)).toArray 29)) 0 (.node 0 0 x.h x.l .nil) (.slice (some ⟨w1.heap.size, 0, Option.none⟩) 1 1) :=
      EV.laid0 (F := .node 0 0 x.h x.l .nil) (ERow.one (V1.out.later (alloc_below _ _))) (new_range w1 (xcells x (.slice va (elen x.l) vc)).toArray 29) 1
    refine (countAllE_is (.node 0 0 x.h x.l .nil) (by simp only [enodes]; omega) _ _ V2).mono ?_
    rintro e w2 ⟨rfl, hb2⟩
    have B2 := B1.trans ((below_alloc hb2).mono B1.size)
    have hen : (enodes (.node 0 0 x.h x.l .nil : EF) : Int) = (enodes x.l : Int) + 1 := by simp only [enodes]; omega
    rw [hen]
    clear hb2 V2 c0 c1 c2 c3 hen
    by_cases h6 : (enodes x.l : Int) + 1 ≤ 60
    · go_wp2
      go_ret
      exact retB (by rw [expOk, Htv.out, decide_eq_true (by omega)]; rfl) B2
    · go_wp2
      go_ret
      exact retB (by rw [expOk, Htv.out]; simp; omega) B2
end Go.Proofs.YtkilmefpaojkfaaDoor
/-
  What the text of an expression is (no Go).
-/
namespace Go.Proofs.YtkilmefpaojkfaaDoor
open Go.RowKit Go.Lib
set_option linter.unusedSimpArgs false
set_option linter.unusedVariables false

/-- How closely a kind holds. -/
def lvl (k : Int) : Nat := if k = 4 ∨ k = 5 then 1 else if k = 6 then 2 else 3
def sgn (k : Int) : List UInt8 := if k = 4 then [43] else if k = 5 then [45] else if k = 6 then [42] else if k = 7 then [109, 105, 110] else if k = 8 then [109, 97, 120] else []
/-- A part: how closely it holds, and its text. -/
abbrev PT := Nat × List UInt8
def side (a : PT) (n : Nat) : List UInt8 := if a.1 < n then 40 :: (a.2 ++ [41]) else a.2
def pairT (k : Int) (a b : PT) : List UInt8 := if lvl k = 3 then sgn k ++ (40 :: (a.2 ++ ([44, 32] ++ (b.2 ++ [41])))) else side a (lvl k) ++ (32 :: (sgn k ++ (32 :: side b (lvl k + 1))))
def oneT (h : EH) : List PT → List UInt8
  | [] => if h.k = 1 then itoa h.n else h.s.data.toList
  | [a] => h.s.data.toList ++ (91 :: (a.2 ++ [93]))
  | a :: b :: _ => pairT h.k a b
def rowT : EF → List PT
  | .nil => []
  | .node _ _ h l r => (lvl h.k, oneT h (rowT l)) :: rowT r
def xT (x : X) : List UInt8 := oneT x.h (rowT x.l)
def xP (x : X) : PT := (lvl x.h.k, xT x)
/-- As bytes. -/
def str (l : List UInt8) : ByteArray := ⟨l.toArray⟩
theorem str_list (l : List UInt8) : (str l).data.toList = l := by simp [str]
theorem str_size (l : List UInt8) : (str l).size = l.length := by show l.toArray.size = _; simp
theorem str_app (a b : List UInt8) : str a ++ str b = str (a ++ b) := ByteArray.ext (by simp [str, ByteArray.data_append])
theorem str_of (s : ByteArray) : str s.data.toList = s := ByteArray.ext (by simp [str])
theorem fnum_num {h : EH} {n : Nat} (e : fnum h n = 1) : h.k = 1 ∧ n = 0 := by
  unfold fnum at e
  split at e
  · rename_i c; exact ⟨c.1, c.2.2⟩
  · split at e
    · cases e
    · split at e
      · cases e
      · split at e <;> cases e
theorem fnum_var {h : EH} {n : Nat} (e : fnum h n = 2) : h.k = 2 ∧ n = 0 := by
  unfold fnum at e
  split at e
  · cases e
  · split at e
    · rename_i c; exact ⟨c.1, c.2.2⟩
    · split at e
      · cases e
      · split at e <;> cases e
theorem fnum_at {h : EH} {n : Nat} (e : fnum h n = 3) : h.k = 3 ∧ n = 1 := by
  unfold fnum at e
  split at e
  · cases e
  · split at e
    · cases e
    · split at e
      · rename_i c; exact ⟨c.1, c.2.2⟩
      · split at e <;> cases e
theorem fnum_pair {h : EH} {n : Nat} (e : fnum h n = 4) : (4 ≤ h.k ∧ h.k ≤ 8) ∧ n = 2 := by
  unfold fnum at e
  split at e
  · cases e
  · split at e
    · cases e
    · split at e
      · cases e
      · split at e
        · rename_i c; exact ⟨⟨c.1, c.2.1⟩, c.2.2.2.2⟩
        · cases e
theorem elen_zero {F : EF} (h : elen F = 0) : F = .nil := by
  cases F with
  | nil => rfl
  | node => simp [elen] at h
/-- What an expression that is as told is. -/
theorem told_cases {d : Nat} {x : X} (h : toldX (d + 1) x = true) :
    (fnum x.h (elen x.l) = 1 ∧ x.h.k = 1 ∧ x.l = .nil ∧ 0 ≤ x.h.n ∧ x.h.n ≤ 999999) ∨ (fnum x.h (elen x.l) = 2 ∧ x.h.k = 2 ∧ x.l = .nil ∧ x.h.s.size ≤ 6) ∨
    (fnum x.h (elen x.l) = 3 ∧ x.h.k = 3 ∧ x.h.s.size ≤ 6 ∧ ∃ (p q : Nat) (y : X), x.l = .node p q y.h y.l .nil ∧ toldX d y = true) ∨
    (fnum x.h (elen x.l) = 4 ∧ (4 ≤ x.h.k ∧ x.h.k ≤ 8) ∧ ∃ (p q p' q' : Nat) (y z : X), x.l = .node p q y.h y.l (.node p' q' z.h z.l .nil) ∧ toldX d y = true ∧ toldX d z = true) := by
  have hnm : ∀ s : ByteArray, nameOk s.data.toList = true → s.size ≤ 6 := fun s e => by
    unfold nameOk at e
    simp only [Bool.and_eq_true, decide_eq_true_eq] at e
    have := e.1.1.2
    simpa using this
  have hf : fnum x.h (elen x.l) = 0 ∨ fnum x.h (elen x.l) = 1 ∨ fnum x.h (elen x.l) = 2 ∨ fnum x.h (elen x.l) = 3 ∨ fnum x.h (elen x.l) = 4 := by
    unfold fnum; repeat' split <;> try omega
    all_goals simp
  rcases hf with e | e | e | e | e
  · exfalso
    simp only [toldX, here, e, Bool.false_and, Bool.and_false] at h
    cases h
  · rw [toldX_num e] at h
    simp only [Bool.and_eq_true, decide_eq_true_eq] at h
    exact .inl ⟨e, (fnum_num e).1, elen_zero (fnum_num e).2, h.1, h.2⟩
  · rw [toldX_var e] at h
    exact .inr (.inl ⟨e, (fnum_var e).1, elen_zero (fnum_var e).2, hnm _ h⟩)
  · obtain ⟨p, q, hh, l, hl⟩ := len1 (fnum_at e).2
    rw [toldX_at (y := ⟨hh, l⟩) e hl, Bool.and_eq_true] at h
    exact .inr (.inr (.inl ⟨e, (fnum_at e).1, hnm _ h.1, p, q, ⟨hh, l⟩, hl, h.2⟩))
  · obtain ⟨p, q, hh, l, p', q', hh', l', hl⟩ := len2 (fnum_pair e).2
    rw [toldX_pair (y := ⟨hh, l⟩) (z := ⟨hh', l'⟩) e hl, Bool.and_eq_true] at h
    exact .inr (.inr (.inr ⟨e, (fnum_pair e).1, p, q, p', q', ⟨hh, l⟩, ⟨hh', l'⟩, hl, h.1, h.2⟩))
theorem sgn_len (k : Int) : (sgn k).length ≤ 3 := by
  unfold sgn; repeat' split
  all_goals simp
theorem side_len (a : PT) (n : Nat) : (side a n).length ≤ a.2.length + 2 := by unfold side; split <;> simp
theorem pairT_len (k : Int) (a b : PT) : (pairT k a b).length ≤ a.2.length + b.2.length + 12 := by
  have h1 := sgn_len k
  unfold pairT
  split
  · simp only [List.length_append, List.length_cons, List.length_nil]; omega
  · have h2 := side_len a (lvl k)
    have h3 := side_len b (lvl k + 1)
    simp only [List.length_append, List.length_cons, List.length_nil]; omega
theorem xT_at {x y : X} {p q : Nat} (hl : x.l = .node p q y.h y.l .nil) : xT x = x.h.s.data.toList ++ (91 :: (xT y ++ [93])) := by unfold xT; rw [hl]; rfl
theorem xT_pair {x y z : X} {p q p' q' : Nat} (hl : x.l = .node p q y.h y.l (.node p' q' z.h z.l .nil)) : xT x = pairT x.h.k (xP y) (xP z) := by unfold xT; rw [hl]; rfl
theorem xT_num {x : X} (hl : x.l = .nil) (hk : x.h.k = 1) : xT x = itoa x.h.n := by unfold xT; rw [hl]; simp [rowT, oneT, hk]
theorem xT_var {x : X} (hl : x.l = .nil) (hk : x.h.k = 2) : xT x = x.h.s.data.toList := by unfold xT; rw [hl]; simp [rowT, oneT, hk]
theorem xT_len : ∀ (d : Nat) (x : X), toldX d x = true → (xT x).length ≤ 40 * (enodes x.l + 1)
  | 0, x, h => by rw [toldX_zero] at h; cases h
  | d + 1, x, h => by
    rcases told_cases h with ⟨_, hk, hl, h0, h1⟩ | ⟨_, hk, hl, hs⟩ | ⟨_, hk, hs, p, q, y, hl, hy⟩ | ⟨_, hk, p, q, p', q', y, z, hl, hy, hz⟩
    · have := itoa_length_le x.h.n (by omega) (by omega)
      rw [xT_num hl hk]; omega
    · rw [xT_var hl hk]
      have : x.h.s.data.toList.length = x.h.s.size := by simp
      omega
    · have := xT_len d y hy
      have e5 : enodes x.l = enodes y.l + 0 + 1 := by rw [hl]; rfl
      have e : x.h.s.data.toList.length = x.h.s.size := by simp
      rw [xT_at hl, e5]; simp only [List.length_append, List.length_cons, List.length_nil]
      omega
    · have := xT_len d y hy
      have := xT_len d z hz
      have hp := pairT_len x.h.k (xP y) (xP z)
      have e5 : enodes x.l = enodes y.l + (enodes z.l + 0 + 1) + 1 := by rw [hl]; rfl
      have e2 : (xP y).2.length = (xT y).length := rfl
      have e3 : (xP z).2.length = (xT z).length := rfl
      rw [xT_pair hl, e5]
      omega
end Go.Proofs.YtkilmefpaojkfaaDoor
