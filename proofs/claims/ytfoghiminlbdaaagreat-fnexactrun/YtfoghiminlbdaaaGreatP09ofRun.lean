/-
  Texts in one: AstForm, TokRune.
-/
import Derived.Test.YtfoghiminlbdaaaGreatZp
import Derived.Test.YtfoghiminlbdaaaGreatP08ofRun
import Derived.Deep.AppendLies
import Derived.Test.YtfoghiminlbdaaaGreatRows
import Derived.WalkKit
import Derived.WalkLawsBesides
import Derived.Laws.Runes
import Derived.Laws.RangeAny
import Derived.Lib.OthersKept
import Derived.Lib.Hide
import Derived.WalkMore
import Derived.Laws.Strings2
import Derived.Laws.Strings3
import Derived.Laws.DeepStrings4
import Derived.Deep.QuietTactic
import Derived.BigQuiet
namespace Go.Proofs.YtfoghiminlbdaaaGreat
open Go.RowKit Go.Lib
set_option linter.unusedSimpArgs false
set_option linter.unusedVariables false
def fnum (h : EH) (n : Nat) : Nat :=
  if h.k = 1 ∧ h.s.size = 0 ∧ n = 0 then 1
  else if h.k = 2 ∧ h.n = 0 ∧ n = 0 then 2
  else if h.k = 3 ∧ h.n = 0 ∧ n = 1 then 3
  else if 4 ≤ h.k ∧ h.k ≤ 8 ∧ h.n = 0 ∧ h.s.size = 0 ∧ n = 2 then 4
  else 0
def FormIs (w : World) (x : X) (fv : Value) : Prop :=
  (fnum x.h (elen x.l) = 1 ∧ fv = .iface 142 (.agg #[.int .i64 x.h.n])) ∨
  (fnum x.h (elen x.l) = 2 ∧ fv = .iface 144 (.agg #[.string x.h.s])) ∨
  (fnum x.h (elen x.l) = 3 ∧ ∃ (p q : Nat) (y : X) (u : Value), x.l = .node p q y.h y.l .nil ∧ EV w 0 y.l u ∧ fv = .iface 146 (.agg #[.string x.h.s, .int .i64 y.h.k, .int .i64 y.h.n, .string y.h.s, u])) ∨
  (fnum x.h (elen x.l) = 4 ∧ ∃ (p q p' q' : Nat) (y z : X) (u v : Value), x.l = .node p q y.h y.l (.node p' q' z.h z.l .nil) ∧ EV w 0 y.l u ∧ EV w 0 z.l v ∧ fv = .iface 149 (.agg #[.int .i64 y.h.k, .int .i64 y.h.n, .string y.h.s, u, .int .i64 z.h.k, .int .i64 z.h.n, .string z.h.s, v])) ∨
  (fnum x.h (elen x.l) = 0 ∧ fv = .nilIface)
theorem len1 {F : EF} (h : elen F = 1) : ∃ p q hh l, F = .node p q hh l .nil := by
  cases F with
  | nil => simp [elen] at h
  | node p q hh l r =>
    cases r with
    | nil => exact ⟨p, q, hh, l, rfl⟩
    | node _ _ _ _ _ => simp [elen] at h
theorem len2 {F : EF} (h : elen F = 2) : ∃ p q hh l p' q' hh' l', F = .node p q hh l (.node p' q' hh' l' .nil) := by
  cases F with
  | nil => simp [elen] at h
  | node p q hh l r =>
    obtain ⟨p', q', hh', l', rfl⟩ := len1 (F := r) (by simp only [elen] at h; omega)
    exact ⟨p, q, hh, l, p', q', hh', l', rfl⟩
theorem new_cell (w : World) (arr : Array Value) (t : TypeId) (j : Nat) (u : Value) (h : arr[j]? = some u) : (w.alloc (.cells arr t)).cell? ⟨w.heap.size, j, Option.none⟩ = some u := by
  have e : (w.alloc (.cells arr t)).heap[w.heap.size]? = some (.cells arr t (0, 0)) := by show (w.heap.push _)[w.heap.size]? = _; simp
  simp only [World.cell?, e]; exact h
theorem str_empty {s : ByteArray} (h : s.size = 0) : (s.toList == []) = true := by
  have : s.data.toList = [] := List.length_eq_zero_iff.1 (by simpa using h)
  rw [ByteArray.toList_eq, this]; rfl
theorem str_full {s : ByteArray} (h : ¬ s.size = 0) : (s.toList == []) = false := by
  rw [ByteArray.toList_eq, beq_eq_false_iff_ne]
  intro e
  exact h (by simpa using congrArg List.length e)
theorem form_nil {w w' : World} {x : X} (h : fnum x.h (elen x.l) = 0) (hb : Below w.heap.size w w') : ∃ fv, Ending.returned Value.nilIface = .returned fv ∧ FormIs w x fv ∧ Below w.heap.size w w' := ⟨_, rfl, .inr (.inr (.inr (.inr ⟨h, rfl⟩))), hb⟩
set_option maxHeartbeats 1000000 in
set_option maxRecDepth 100000 in
theorem formOf_1 (k n : Int) (s : ByteArray) (l : EF) (w : World) (v : Value) (hv : EV w 0 l v) (hk : k = 1) : Calls Tryz.prog 102 #[.agg #[.int .i64 k, .int .i64 n, .string s, v]] w fun e w' => ∃ fv, e = .returned fv ∧ FormIs w ⟨⟨k, n, s⟩, l⟩ fv ∧ Below w.heap.size w w' := by
  obtain ⟨b, o, a, c, rfl, hao, _, hin⟩ := hv
  subst hk
  by_cases hs : s.size = 0
  case neg =>
    have hf : Hid (fnum ⟨1, n, s⟩ (elen l) = 0) := show fnum _ _ = 0 by simp [fnum, hs]
    have he := str_full hs
    clear hs hao hin
    go_enter Tryz.func102, Tryz.ntmps102
    go_wp2
    go_ret
    exact form_nil hf.out (alloc_below _ _)
  have he := str_empty hs
  by_cases hl : elen l = 0
  case neg =>
    have hf : Hid (fnum ⟨1, n, s⟩ (elen l) = 0) := show fnum _ _ = 0 by simp [fnum, hl]
    have h1 : ((elen l : Int) == 0) = false := int_ne (by omega)
    clear hs hl hao hin
    go_enter Tryz.func102, Tryz.ntmps102
    go_wp2
    go_ret
    exact form_nil hf.out (alloc_below _ _)
  have hf : Hid (fnum ⟨1, n, s⟩ (elen l) = 1) := show fnum _ _ = 1 by simp [fnum, hl, hs]
  have h1 : ((elen l : Int) == 0) = true := by rw [beq_iff_eq]; omega
  clear hs hl hao hin
  go_enter Tryz.func102, Tryz.ntmps102
  go_wp2
  go_ret
  exact ⟨_, rfl, .inl ⟨hf.out, rfl⟩, alloc_below _ _⟩
set_option maxHeartbeats 1000000 in
set_option maxRecDepth 100000 in
theorem formOf_2 (k n : Int) (s : ByteArray) (l : EF) (w : World) (v : Value) (hv : EV w 0 l v) (hk : k = 2) : Calls Tryz.prog 102 #[.agg #[.int .i64 k, .int .i64 n, .string s, v]] w fun e w' => ∃ fv, e = .returned fv ∧ FormIs w ⟨⟨k, n, s⟩, l⟩ fv ∧ Below w.heap.size w w' := by
  obtain ⟨b, o, a, c, rfl, hao, _, hin⟩ := hv
  subst hk
  by_cases hn : n = 0
  case neg =>
    have hf : Hid (fnum ⟨2, n, s⟩ (elen l) = 0) := show fnum _ _ = 0 by simp [fnum, hn]
    have he := int_ne hn
    clear hao hin
    go_enter Tryz.func102, Tryz.ntmps102
    go_wp2
    go_ret
    exact form_nil hf.out (alloc_below _ _)
  subst hn
  by_cases hl : elen l = 0
  case neg =>
    have hf : Hid (fnum ⟨2, 0, s⟩ (elen l) = 0) := show fnum _ _ = 0 by simp [fnum, hl]
    have h1 : ((elen l : Int) == 0) = false := int_ne (by omega)
    clear hl hao hin
    go_enter Tryz.func102, Tryz.ntmps102
    go_wp2
    go_ret
    exact form_nil hf.out (alloc_below _ _)
  have hf : Hid (fnum ⟨2, 0, s⟩ (elen l) = 2) := show fnum _ _ = 2 by simp [fnum, hl]
  have h1 : ((elen l : Int) == 0) = true := by rw [beq_iff_eq]; omega
  clear hl hao hin
  go_enter Tryz.func102, Tryz.ntmps102
  go_wp2
  go_ret
  exact ⟨_, rfl, .inr (.inl ⟨hf.out, rfl⟩), alloc_below _ _⟩
set_option maxHeartbeats 1000000 in
set_option maxRecDepth 100000 in
theorem formOf_3 (k n : Int) (s : ByteArray) (l : EF) (w : World) (v : Value) (hv : EV w 0 l v) (hk : k = 3) : Calls Tryz.prog 102 #[.agg #[.int .i64 k, .int .i64 n, .string s, v]] w fun e w' => ∃ fv, e = .returned fv ∧ FormIs w ⟨⟨k, n, s⟩, l⟩ fv ∧ Below w.heap.size w w' := by
  obtain ⟨b, o, a, c, rfl, hao, _, hin⟩ := hv
  subst hk
  by_cases hn : n = 0
  case neg =>
    have hf : Hid (fnum ⟨3, n, s⟩ (elen l) = 0) := show fnum _ _ = 0 by simp [fnum, hn]
    have he := int_ne hn
    clear hao hin
    go_enter Tryz.func102, Tryz.ntmps102
    go_wp2
    go_ret
    exact form_nil hf.out (alloc_below _ _)
  subst hn
  by_cases hl : elen l = 1
  case neg =>
    have hf : Hid (fnum ⟨3, 0, s⟩ (elen l) = 0) := show fnum _ _ = 0 by simp [fnum, hl]
    have h1 : ((elen l : Int) == 1) = false := int_ne (by omega)
    clear hl hao hin
    go_enter Tryz.func102, Tryz.ntmps102
    go_wp2
    go_ret
    exact form_nil hf.out (alloc_below _ _)
  have hf : Hid (fnum ⟨3, 0, s⟩ (elen l) = 3) := show fnum _ _ = 3 by simp [fnum, hl]
  obtain ⟨p, q, hh, l', rfl⟩ := len1 hl
  obtain rfl : a = some ⟨b, o, Option.none⟩ := hao.resolve_right (by intro e; cases e)
  obtain ⟨⟨a0, a1, a2, u, a3, hu⟩, _⟩ := EIn_node.1 hin
  have ra : Hid (w.rangeAt b o (xcells ⟨hh, l'⟩ u)) := x_range (x := ⟨hh, l'⟩) a0 a1 a2 a3
  have HU := hid hu
  clear hl hin hao a0 a1 a2 a3 hu
  go_enter Tryz.func102, Tryz.ntmps102
  go_wp2_with fail
  simp only [elen] at *
  have hb1 : Below w.heap.size w (w.alloc (.cells #[.int .i64 3, .int .i64 0, .string s, .slice (some ⟨b, o, Option.none⟩) 1 c] 43)) := alloc_below _ _
  have hbk := new_cell w #[.int .i64 3, .int .i64 0, .string s, .slice (some ⟨b, o, Option.none⟩) 1 c] 43
  have c2 := hbk 2 _ rfl
  have c3 := hbk 3 _ rfl
  have ra2 := rangeAt_later ra.out hb1
  refine wp_region_held_drew (S := fun w' => (w'.cell? ⟨w.heap.size, 2, Option.none⟩ = some (.string s) ∧ w'.cell? ⟨w.heap.size, 3, Option.none⟩ = some (.slice (some ⟨b, o, Option.none⟩) 1 c)) ∧ w'.rangeAt b o (xcells ⟨hh, l'⟩ u)) (by kernel_rfl) ⟨⟨c2, c3⟩, (World.rangeAt_drew _ _ _ _).2 ra2⟩ (fun hHeld => ?_)
  refine wpAnyH_take (i := 0) (v := .pointer (some ⟨w.heap.size, 2, Option.none⟩)) rfl (by kernel_rfl) (by kernel_rfl) (by kernel_rfl) (fun _ _ _ h => h) (Or.inl ⟨by rfl, ?y0⟩) hHeld ?_
  case y0 => intro w hSw; go_simp
  simp only [Act.put, zp]
  refine wpAnyH_take (i := 1) (v := .string s) rfl (by kernel_rfl) (by kernel_rfl) (by kernel_rfl) (fun _ _ _ h => h) (Or.inl ⟨by rfl, ?y1⟩) hHeld ?_
  case y1 => intro w hSw; have q1 := hSw.1.1; clear hSw c2 c3 hHeld hbk; go_simp
  simp only [Act.put, zp]
  refine wpAnyH_take (i := 2) (v := .pointer (some ⟨w.heap.size, 3, Option.none⟩)) rfl (by kernel_rfl) (by kernel_rfl) (by kernel_rfl) (fun _ _ _ h => h) (Or.inl ⟨by rfl, ?y2⟩) hHeld ?_
  case y2 => intro w hSw; go_simp
  simp only [Act.put, zp]
  refine wpAnyH_take (i := 3) (v := .slice (some ⟨b, o, Option.none⟩) 1 c) rfl (by kernel_rfl) (by kernel_rfl) (by kernel_rfl) (fun _ _ _ h => h) (Or.inl ⟨by rfl, ?y3⟩) hHeld ?_
  case y3 => intro w hSw; have q1 := hSw.1.2; clear hSw c2 c3 hHeld hbk; go_simp
  simp only [Act.put, zp]
  refine wpAnyH_take (i := 4) (v := .pointer (some ⟨b, o, Option.none⟩)) rfl (by kernel_rfl) (by kernel_rfl) (by kernel_rfl) (fun _ _ _ h => h) (Or.inl ⟨by rfl, ?y4⟩) hHeld ?_
  case y4 => intro w hSw; go_simp
  simp only [Act.put, zp]
  refine wpAnyH_take (i := 5) (v := .agg (xcells ⟨hh, l'⟩ u).toArray) rfl (by kernel_rfl) (by kernel_rfl) (by kernel_rfl) (fun _ _ _ h => h) (yieldsIf_load_mid (by rfl) 43 _ rfl (b) (o) rfl (xcells ⟨hh, l'⟩ u) _ (fun w h => h.2) Tryz.underlying43 rfl sizeIE2) hHeld ?_
  simp only [Act.put, zp]
  refine wpAnyH_take (i := 6) (v := .agg #[.string s, .int .i64 hh.k, .int .i64 hh.n, .string hh.s, u]) rfl (by kernel_rfl) (by kernel_rfl) (by kernel_rfl) (fun _ _ _ h => h) (Or.inl ⟨by rfl, ?y6⟩) hHeld ?_
  case y6 => intro w hSw; clear hSw c2 c3 hHeld hbk; simp only [xcells]; go_simp
  simp only [Act.put, zp]
  refine wpAnyH_take (i := 7) (v := .iface 146 (.agg #[.string s, .int .i64 hh.k, .int .i64 hh.n, .string hh.s, u])) rfl (by kernel_rfl) (by kernel_rfl) (by kernel_rfl) (fun _ _ _ h => h) (Or.inl ⟨by rfl, ?y7⟩) hHeld ?_
  case y7 => intro w hSw; go_simp
  simp only [Act.put, zp]
  refine wpAnyH_take (i := 8) (v := .iface 146 (.agg #[.string s, .int .i64 hh.k, .int .i64 hh.n, .string hh.s, u])) rfl (by kernel_rfl) (by kernel_rfl) (by kernel_rfl) (fun _ _ _ h => h) (Or.inl ⟨by rfl, ?y8⟩) hHeld ?_
  case y8 => intro w hSw; go_simp
  simp only [Act.put, zp]
  refine wpAnyH_done (by kernel_rfl) ?_ _
  go_wp2
  go_ret
  exact ⟨_, rfl, .inr (.inr (.inl ⟨hf.out, p, q, ⟨hh, l'⟩, u, rfl, HU.out, rfl⟩)), hb1.drew⟩
set_option maxHeartbeats 1000000 in
set_option maxRecDepth 100000 in
theorem formOf_4 (k n : Int) (s : ByteArray) (l : EF) (w : World) (v : Value) (hv : EV w 0 l v) (hk : k = 4) : Calls Tryz.prog 102 #[.agg #[.int .i64 k, .int .i64 n, .string s, v]] w fun e w' => ∃ fv, e = .returned fv ∧ FormIs w ⟨⟨k, n, s⟩, l⟩ fv ∧ Below w.heap.size w w' := by
  obtain ⟨b, o, a, c, rfl, hao, _, hin⟩ := hv
  subst hk
  by_cases hn : n = 0
  case neg =>
    have hf : Hid (fnum ⟨4, n, s⟩ (elen l) = 0) := show fnum _ _ = 0 by simp [fnum, hn]
    have he := int_ne hn
    clear hao hin
    go_enter Tryz.func102, Tryz.ntmps102
    go_wp2
    go_ret
    exact form_nil hf.out (alloc_below _ _)
  subst hn
  by_cases hs : s.size = 0
  case neg =>
    have hf : Hid (fnum ⟨4, 0, s⟩ (elen l) = 0) := show fnum _ _ = 0 by simp [fnum, hs]
    have he := str_full hs
    clear hs hao hin
    go_enter Tryz.func102, Tryz.ntmps102
    go_wp2
    go_ret
    exact form_nil hf.out (alloc_below _ _)
  have he := str_empty hs
  by_cases hl : elen l = 2
  case neg =>
    have hf : Hid (fnum ⟨4, 0, s⟩ (elen l) = 0) := show fnum _ _ = 0 by simp [fnum, hl]
    have h1 : ((elen l : Int) == 2) = false := int_ne (by omega)
    clear hl hs hao hin
    go_enter Tryz.func102, Tryz.ntmps102
    go_wp2
    go_ret
    exact form_nil hf.out (alloc_below _ _)
  have hf : Hid (fnum ⟨4, 0, s⟩ (elen l) = 4) := show fnum _ _ = 4 by simp [fnum, hl, hs]
  obtain ⟨p, q, hh, l1, p', q', hh', l2, rfl⟩ := len2 hl
  obtain rfl : a = some ⟨b, o, Option.none⟩ := hao.resolve_right (by intro e; cases e)
  obtain ⟨⟨a0, a1, a2, u, a3, hu⟩, hin2⟩ := EIn_node.1 hin
  obtain ⟨⟨d0, d1, d2, u', d3, hu'⟩, _⟩ := EIn_node.1 hin2
  have ra : Hid (w.rangeAt b o (xcells ⟨hh, l1⟩ u)) := x_range (x := ⟨hh, l1⟩) a0 a1 a2 a3
  have rb : Hid (w.rangeAt b (o + 4) (xcells ⟨hh', l2⟩ u')) := x_range (x := ⟨hh', l2⟩) d0 d1 d2 d3
  have HU := hid (And.intro hu hu')
  clear hl hs hin hin2 hao a0 a1 a2 a3 hu d0 d1 d2 d3 hu'
  go_enter Tryz.func102, Tryz.ntmps102
  go_wp2_with fail
  simp only [elen] at *
  have hb1 : Below w.heap.size w (w.alloc (.cells #[.int .i64 4, .int .i64 0, .string s, .slice (some ⟨b, o, Option.none⟩) 2 c] 43)) := alloc_below _ _
  have hbk := new_cell w #[.int .i64 4, .int .i64 0, .string s, .slice (some ⟨b, o, Option.none⟩) 2 c] 43
  have c3 := hbk 3 _ rfl
  have ra2 := rangeAt_later ra.out hb1
  have rb2 := rangeAt_later rb.out hb1
  refine wp_region_held_drew (S := fun w' => w'.cell? ⟨w.heap.size, 3, Option.none⟩ = some (.slice (some ⟨b, o, Option.none⟩) 2 c) ∧ (w'.rangeAt b o (xcells ⟨hh, l1⟩ u) ∧ w'.rangeAt b (o + 4) (xcells ⟨hh', l2⟩ u'))) (by kernel_rfl) ⟨c3, ⟨(World.rangeAt_drew _ _ _ _).2 ra2, (World.rangeAt_drew _ _ _ _).2 rb2⟩⟩ (fun hHeld => ?_)
  refine wpAnyH_take (i := 0) (v := .pointer (some ⟨w.heap.size, 3, Option.none⟩)) rfl (by kernel_rfl) (by kernel_rfl) (by kernel_rfl) (fun _ _ _ h => h) (Or.inl ⟨by rfl, ?y0⟩) hHeld ?_
  case y0 => intro w hSw; go_simp
  simp only [Act.put, zp]
  refine wpAnyH_take (i := 1) (v := .slice (some ⟨b, o, Option.none⟩) 2 c) rfl (by kernel_rfl) (by kernel_rfl) (by kernel_rfl) (fun _ _ _ h => h) (Or.inl ⟨by rfl, ?y1⟩) hHeld ?_
  case y1 => intro w hSw; have q1 := hSw.1; clear hSw c3 hHeld hbk; go_simp
  simp only [Act.put, zp]
  refine wpAnyH_take (i := 2) (v := .pointer (some ⟨b, o, Option.none⟩)) rfl (by kernel_rfl) (by kernel_rfl) (by kernel_rfl) (fun _ _ _ h => h) (Or.inl ⟨by rfl, ?y2⟩) hHeld ?_
  case y2 => intro w hSw; go_simp
  simp only [Act.put, zp]
  refine wpAnyH_take (i := 3) (v := .agg (xcells ⟨hh, l1⟩ u).toArray) rfl (by kernel_rfl) (by kernel_rfl) (by kernel_rfl) (fun _ _ _ h => h) (yieldsIf_load_mid (by rfl) 43 _ rfl (b) (o) rfl (xcells ⟨hh, l1⟩ u) _ (fun w h => h.2.1) Tryz.underlying43 rfl sizeIE2) hHeld ?_
  simp only [Act.put, zp]
  refine wpAnyH_take (i := 4) (v := .pointer (some ⟨w.heap.size, 3, Option.none⟩)) rfl (by kernel_rfl) (by kernel_rfl) (by kernel_rfl) (fun _ _ _ h => h) (Or.inl ⟨by rfl, ?y4⟩) hHeld ?_
  case y4 => intro w hSw; go_simp
  simp only [Act.put, zp]
  refine wpAnyH_take (i := 5) (v := .slice (some ⟨b, o, Option.none⟩) 2 c) rfl (by kernel_rfl) (by kernel_rfl) (by kernel_rfl) (fun _ _ _ h => h) (Or.inl ⟨by rfl, ?y5⟩) hHeld ?_
  case y5 => intro w hSw; have q1 := hSw.1; clear hSw c3 hHeld hbk; go_simp
  simp only [Act.put, zp]
  refine wpAnyH_take (i := 6) (v := .pointer (some ⟨b, o + 4, Option.none⟩)) rfl (by kernel_rfl) (by kernel_rfl) (by kernel_rfl) (fun _ _ _ h => h) (Or.inl ⟨by rfl, ?y6⟩) hHeld ?_
  case y6 => intro w hSw; go_simp
  simp only [Act.put, zp]
  refine wpAnyH_take (i := 7) (v := .agg (xcells ⟨hh', l2⟩ u').toArray) rfl (by kernel_rfl) (by kernel_rfl) (by kernel_rfl) (fun _ _ _ h => h) (yieldsIf_load_mid (by rfl) 43 _ rfl (b) (o + 4) rfl (xcells ⟨hh', l2⟩ u') _ (fun w h => h.2.2) Tryz.underlying43 rfl sizeIE2) hHeld ?_
  simp only [Act.put, zp]
  refine wpAnyH_take (i := 8) (v := .agg #[.int .i64 hh.k, .int .i64 hh.n, .string hh.s, u, .int .i64 hh'.k, .int .i64 hh'.n, .string hh'.s, u']) rfl (by kernel_rfl) (by kernel_rfl) (by kernel_rfl) (fun _ _ _ h => h) (Or.inl ⟨by rfl, ?y8⟩) hHeld ?_
  case y8 => intro w hSw; clear hSw c3 hHeld hbk; simp only [xcells]; go_simp
  simp only [Act.put, zp]
  refine wpAnyH_take (i := 9) (v := .iface 149 (.agg #[.int .i64 hh.k, .int .i64 hh.n, .string hh.s, u, .int .i64 hh'.k, .int .i64 hh'.n, .string hh'.s, u'])) rfl (by kernel_rfl) (by kernel_rfl) (by kernel_rfl) (fun _ _ _ h => h) (Or.inl ⟨by rfl, ?y9⟩) hHeld ?_
  case y9 => intro w hSw; go_simp
  simp only [Act.put, zp]
  refine wpAnyH_take (i := 10) (v := .iface 149 (.agg #[.int .i64 hh.k, .int .i64 hh.n, .string hh.s, u, .int .i64 hh'.k, .int .i64 hh'.n, .string hh'.s, u'])) rfl (by kernel_rfl) (by kernel_rfl) (by kernel_rfl) (fun _ _ _ h => h) (Or.inl ⟨by rfl, ?y10⟩) hHeld ?_
  case y10 => intro w hSw; go_simp
  simp only [Act.put, zp]
  refine wpAnyH_done (by kernel_rfl) ?_ _
  go_wp2
  go_ret
  exact ⟨_, rfl, .inr (.inr (.inr (.inl ⟨hf.out, p, q, p', q', ⟨hh, l1⟩, ⟨hh', l2⟩, u, u', rfl, HU.out.1, HU.out.2, rfl⟩))), hb1.drew⟩
set_option maxHeartbeats 1000000 in
set_option maxRecDepth 100000 in
theorem formOf_5 (k n : Int) (s : ByteArray) (l : EF) (w : World) (v : Value) (hv : EV w 0 l v) (hk : k = 5) : Calls Tryz.prog 102 #[.agg #[.int .i64 k, .int .i64 n, .string s, v]] w fun e w' => ∃ fv, e = .returned fv ∧ FormIs w ⟨⟨k, n, s⟩, l⟩ fv ∧ Below w.heap.size w w' := by
  obtain ⟨b, o, a, c, rfl, hao, _, hin⟩ := hv
  subst hk
  by_cases hn : n = 0
  case neg =>
    have hf : Hid (fnum ⟨5, n, s⟩ (elen l) = 0) := show fnum _ _ = 0 by simp [fnum, hn]
    have he := int_ne hn
    clear hao hin
    go_enter Tryz.func102, Tryz.ntmps102
    go_wp2
    go_ret
    exact form_nil hf.out (alloc_below _ _)
  subst hn
  by_cases hs : s.size = 0
  case neg =>
    have hf : Hid (fnum ⟨5, 0, s⟩ (elen l) = 0) := show fnum _ _ = 0 by simp [fnum, hs]
    have he := str_full hs
    clear hs hao hin
    go_enter Tryz.func102, Tryz.ntmps102
    go_wp2
    go_ret
    exact form_nil hf.out (alloc_below _ _)
  have he := str_empty hs
  by_cases hl : elen l = 2
  case neg =>
    have hf : Hid (fnum ⟨5, 0, s⟩ (elen l) = 0) := show fnum _ _ = 0 by simp [fnum, hl]
    have h1 : ((elen l : Int) == 2) = false := int_ne (by omega)
    clear hl hs hao hin
    go_enter Tryz.func102, Tryz.ntmps102
    go_wp2
    go_ret
    exact form_nil hf.out (alloc_below _ _)
  have hf : Hid (fnum ⟨5, 0, s⟩ (elen l) = 4) := show fnum _ _ = 4 by simp [fnum, hl, hs]
  obtain ⟨p, q, hh, l1, p', q', hh', l2, rfl⟩ := len2 hl
  obtain rfl : a = some ⟨b, o, Option.none⟩ := hao.resolve_right (by intro e; cases e)
  obtain ⟨⟨a0, a1, a2, u, a3, hu⟩, hin2⟩ := EIn_node.1 hin
  obtain ⟨⟨d0, d1, d2, u', d3, hu'⟩, _⟩ := EIn_node.1 hin2
  have ra : Hid (w.rangeAt b o (xcells ⟨hh, l1⟩ u)) := x_range (x := ⟨hh, l1⟩) a0 a1 a2 a3
  have rb : Hid (w.rangeAt b (o + 4) (xcells ⟨hh', l2⟩ u')) := x_range (x := ⟨hh', l2⟩) d0 d1 d2 d3
  have HU := hid (And.intro hu hu')
  clear hl hs hin hin2 hao a0 a1 a2 a3 hu d0 d1 d2 d3 hu'
  go_enter Tryz.func102, Tryz.ntmps102
  go_wp2_with fail
  simp only [elen] at *
  have hb1 : Below w.heap.size w (w.alloc (.cells #[.int .i64 5, .int .i64 0, .string s, .slice (some ⟨b, o, Option.none⟩) 2 c] 43)) := alloc_below _ _
  have hbk := new_cell w #[.int .i64 5, .int .i64 0, .string s, .slice (some ⟨b, o, Option.none⟩) 2 c] 43
  have c3 := hbk 3 _ rfl
  have ra2 := rangeAt_later ra.out hb1
  have rb2 := rangeAt_later rb.out hb1
  refine wp_region_held_drew (S := fun w' => w'.cell? ⟨w.heap.size, 3, Option.none⟩ = some (.slice (some ⟨b, o, Option.none⟩) 2 c) ∧ (w'.rangeAt b o (xcells ⟨hh, l1⟩ u) ∧ w'.rangeAt b (o + 4) (xcells ⟨hh', l2⟩ u'))) (by kernel_rfl) ⟨c3, ⟨(World.rangeAt_drew _ _ _ _).2 ra2, (World.rangeAt_drew _ _ _ _).2 rb2⟩⟩ (fun hHeld => ?_)
  refine wpAnyH_take (i := 0) (v := .pointer (some ⟨w.heap.size, 3, Option.none⟩)) rfl (by kernel_rfl) (by kernel_rfl) (by kernel_rfl) (fun _ _ _ h => h) (Or.inl ⟨by rfl, ?y0⟩) hHeld ?_
  case y0 => intro w hSw; go_simp
  simp only [Act.put, zp]
  refine wpAnyH_take (i := 1) (v := .slice (some ⟨b, o, Option.none⟩) 2 c) rfl (by kernel_rfl) (by kernel_rfl) (by kernel_rfl) (fun _ _ _ h => h) (Or.inl ⟨by rfl, ?y1⟩) hHeld ?_
  case y1 => intro w hSw; have q1 := hSw.1; clear hSw c3 hHeld hbk; go_simp
  simp only [Act.put, zp]
  refine wpAnyH_take (i := 2) (v := .pointer (some ⟨b, o, Option.none⟩)) rfl (by kernel_rfl) (by kernel_rfl) (by kernel_rfl) (fun _ _ _ h => h) (Or.inl ⟨by rfl, ?y2⟩) hHeld ?_
  case y2 => intro w hSw; go_simp
  simp only [Act.put, zp]
  refine wpAnyH_take (i := 3) (v := .agg (xcells ⟨hh, l1⟩ u).toArray) rfl (by kernel_rfl) (by kernel_rfl) (by kernel_rfl) (fun _ _ _ h => h) (yieldsIf_load_mid (by rfl) 43 _ rfl (b) (o) rfl (xcells ⟨hh, l1⟩ u) _ (fun w h => h.2.1) Tryz.underlying43 rfl sizeIE2) hHeld ?_
  simp only [Act.put, zp]
  refine wpAnyH_take (i := 4) (v := .pointer (some ⟨w.heap.size, 3, Option.none⟩)) rfl (by kernel_rfl) (by kernel_rfl) (by kernel_rfl) (fun _ _ _ h => h) (Or.inl ⟨by rfl, ?y4⟩) hHeld ?_
  case y4 => intro w hSw; go_simp
  simp only [Act.put, zp]
  refine wpAnyH_take (i := 5) (v := .slice (some ⟨b, o, Option.none⟩) 2 c) rfl (by kernel_rfl) (by kernel_rfl) (by kernel_rfl) (fun _ _ _ h => h) (Or.inl ⟨by rfl, ?y5⟩) hHeld ?_
  case y5 => intro w hSw; have q1 := hSw.1; clear hSw c3 hHeld hbk; go_simp
  simp only [Act.put, zp]
  refine wpAnyH_take (i := 6) (v := .pointer (some ⟨b, o + 4, Option.none⟩)) rfl (by kernel_rfl) (by kernel_rfl) (by kernel_rfl) (fun _ _ _ h => h) (Or.inl ⟨by rfl, ?y6⟩) hHeld ?_
  case y6 => intro w hSw; go_simp
  simp only [Act.put, zp]
  refine wpAnyH_take (i := 7) (v := .agg (xcells ⟨hh', l2⟩ u').toArray) rfl (by kernel_rfl) (by kernel_rfl) (by kernel_rfl) (fun _ _ _ h => h) (yieldsIf_load_mid (by rfl) 43 _ rfl (b) (o + 4) rfl (xcells ⟨hh', l2⟩ u') _ (fun w h => h.2.2) Tryz.underlying43 rfl sizeIE2) hHeld ?_
  simp only [Act.put, zp]
  refine wpAnyH_take (i := 8) (v := .agg #[.int .i64 hh.k, .int .i64 hh.n, .string hh.s, u, .int .i64 hh'.k, .int .i64 hh'.n, .string hh'.s, u']) rfl (by kernel_rfl) (by kernel_rfl) (by kernel_rfl) (fun _ _ _ h => h) (Or.inl ⟨by rfl, ?y8⟩) hHeld ?_
  case y8 => intro w hSw; clear hSw c3 hHeld hbk; simp only [xcells]; go_simp
  simp only [Act.put, zp]
  refine wpAnyH_take (i := 9) (v := .iface 149 (.agg #[.int .i64 hh.k, .int .i64 hh.n, .string hh.s, u, .int .i64 hh'.k, .int .i64 hh'.n, .string hh'.s, u'])) rfl (by kernel_rfl) (by kernel_rfl) (by kernel_rfl) (fun _ _ _ h => h) (Or.inl ⟨by rfl, ?y9⟩) hHeld ?_
  case y9 => intro w hSw; go_simp
  simp only [Act.put, zp]
  refine wpAnyH_take (i := 10) (v := .iface 149 (.agg #[.int .i64 hh.k, .int .i64 hh.n, .string hh.s, u, .int .i64 hh'.k, .int .i64 hh'.n, .string hh'.s, u'])) rfl (by kernel_rfl) (by kernel_rfl) (by kernel_rfl) (fun _ _ _ h => h) (Or.inl ⟨by rfl, ?y10⟩) hHeld ?_
  case y10 => intro w hSw; go_simp
  simp only [Act.put, zp]
  refine wpAnyH_done (by kernel_rfl) ?_ _
  go_wp2
  go_ret
  exact ⟨_, rfl, .inr (.inr (.inr (.inl ⟨hf.out, p, q, p', q', ⟨hh, l1⟩, ⟨hh', l2⟩, u, u', rfl, HU.out.1, HU.out.2, rfl⟩))), hb1.drew⟩
set_option maxHeartbeats 1000000 in
set_option maxRecDepth 100000 in
theorem formOf_6 (k n : Int) (s : ByteArray) (l : EF) (w : World) (v : Value) (hv : EV w 0 l v) (hk : k = 6) : Calls Tryz.prog 102 #[.agg #[.int .i64 k, .int .i64 n, .string s, v]] w fun e w' => ∃ fv, e = .returned fv ∧ FormIs w ⟨⟨k, n, s⟩, l⟩ fv ∧ Below w.heap.size w w' := by
  obtain ⟨b, o, a, c, rfl, hao, _, hin⟩ := hv
  subst hk
  by_cases hn : n = 0
  case neg =>
    have hf : Hid (fnum ⟨6, n, s⟩ (elen l) = 0) := show fnum _ _ = 0 by simp [fnum, hn]
    have he := int_ne hn
    clear hao hin
    go_enter Tryz.func102, Tryz.ntmps102
    go_wp2
    go_ret
    exact form_nil hf.out (alloc_below _ _)
  subst hn
  by_cases hs : s.size = 0
  case neg =>
    have hf : Hid (fnum ⟨6, 0, s⟩ (elen l) = 0) := show fnum _ _ = 0 by simp [fnum, hs]
    have he := str_full hs
    clear hs hao hin
    go_enter Tryz.func102, Tryz.ntmps102
    go_wp2
    go_ret
    exact form_nil hf.out (alloc_below _ _)
  have he := str_empty hs
  by_cases hl : elen l = 2
  case neg =>
    have hf : Hid (fnum ⟨6, 0, s⟩ (elen l) = 0) := show fnum _ _ = 0 by simp [fnum, hl]
    have h1 : ((elen l : Int) == 2) = false := int_ne (by omega)
    clear hl hs hao hin
    go_enter Tryz.func102, Tryz.ntmps102
    go_wp2
    go_ret
    exact form_nil hf.out (alloc_below _ _)
  have hf : Hid (fnum ⟨6, 0, s⟩ (elen l) = 4) := show fnum _ _ = 4 by simp [fnum, hl, hs]
  obtain ⟨p, q, hh, l1, p', q', hh', l2, rfl⟩ := len2 hl
  obtain rfl : a = some ⟨b, o, Option.none⟩ := hao.resolve_right (by intro e; cases e)
  obtain ⟨⟨a0, a1, a2, u, a3, hu⟩, hin2⟩ := EIn_node.1 hin
  obtain ⟨⟨d0, d1, d2, u', d3, hu'⟩, _⟩ := EIn_node.1 hin2
  have ra : Hid (w.rangeAt b o (xcells ⟨hh, l1⟩ u)) := x_range (x := ⟨hh, l1⟩) a0 a1 a2 a3
  have rb : Hid (w.rangeAt b (o + 4) (xcells ⟨hh', l2⟩ u')) := x_range (x := ⟨hh', l2⟩) d0 d1 d2 d3
  have HU := hid (And.intro hu hu')
  clear hl hs hin hin2 hao a0 a1 a2 a3 hu d0 d1 d2 d3 hu'
  go_enter Tryz.func102, Tryz.ntmps102
  go_wp2_with fail
  simp only [elen] at *
  have hb1 : Below w.heap.size w (w.alloc (.cells #[.int .i64 6, .int .i64 0, .string s, .slice (some ⟨b, o, Option.none⟩) 2 c] 43)) := alloc_below _ _
  have hbk := new_cell w #[.int .i64 6, .int .i64 0, .string s, .slice (some ⟨b, o, Option.none⟩) 2 c] 43
  have c3 := hbk 3 _ rfl
  have ra2 := rangeAt_later ra.out hb1
  have rb2 := rangeAt_later rb.out hb1
  refine wp_region_held_drew (S := fun w' => w'.cell? ⟨w.heap.size, 3, Option.none⟩ = some (.slice (some ⟨b, o, Option.none⟩) 2 c) ∧ (w'.rangeAt b o (xcells ⟨hh, l1⟩ u) ∧ w'.rangeAt b (o + 4) (xcells ⟨hh', l2⟩ u'))) (by kernel_rfl) ⟨c3, ⟨(World.rangeAt_drew _ _ _ _).2 ra2, (World.rangeAt_drew _ _ _ _).2 rb2⟩⟩ (fun hHeld => ?_)
  refine wpAnyH_take (i := 0) (v := .pointer (some ⟨w.heap.size, 3, Option.none⟩)) rfl (by kernel_rfl) (by kernel_rfl) (by kernel_rfl) (fun _ _ _ h => h) (Or.inl ⟨by rfl, ?y0⟩) hHeld ?_
  case y0 => intro w hSw; go_simp
  simp only [Act.put, zp]
  refine wpAnyH_take (i := 1) (v := .slice (some ⟨b, o, Option.none⟩) 2 c) rfl (by kernel_rfl) (by kernel_rfl) (by kernel_rfl) (fun _ _ _ h => h) (Or.inl ⟨by rfl, ?y1⟩) hHeld ?_
  case y1 => intro w hSw; have q1 := hSw.1; clear hSw c3 hHeld hbk; go_simp
  simp only [Act.put, zp]
  refine wpAnyH_take (i := 2) (v := .pointer (some ⟨b, o, Option.none⟩)) rfl (by kernel_rfl) (by kernel_rfl) (by kernel_rfl) (fun _ _ _ h => h) (Or.inl ⟨by rfl, ?y2⟩) hHeld ?_
  case y2 => intro w hSw; go_simp
  simp only [Act.put, zp]
  refine wpAnyH_take (i := 3) (v := .agg (xcells ⟨hh, l1⟩ u).toArray) rfl (by kernel_rfl) (by kernel_rfl) (by kernel_rfl) (fun _ _ _ h => h) (yieldsIf_load_mid (by rfl) 43 _ rfl (b) (o) rfl (xcells ⟨hh, l1⟩ u) _ (fun w h => h.2.1) Tryz.underlying43 rfl sizeIE2) hHeld ?_
  simp only [Act.put, zp]
  refine wpAnyH_take (i := 4) (v := .pointer (some ⟨w.heap.size, 3, Option.none⟩)) rfl (by kernel_rfl) (by kernel_rfl) (by kernel_rfl) (fun _ _ _ h => h) (Or.inl ⟨by rfl, ?y4⟩) hHeld ?_
  case y4 => intro w hSw; go_simp
  simp only [Act.put, zp]
  refine wpAnyH_take (i := 5) (v := .slice (some ⟨b, o, Option.none⟩) 2 c) rfl (by kernel_rfl) (by kernel_rfl) (by kernel_rfl) (fun _ _ _ h => h) (Or.inl ⟨by rfl, ?y5⟩) hHeld ?_
  case y5 => intro w hSw; have q1 := hSw.1; clear hSw c3 hHeld hbk; go_simp
  simp only [Act.put, zp]
  refine wpAnyH_take (i := 6) (v := .pointer (some ⟨b, o + 4, Option.none⟩)) rfl (by kernel_rfl) (by kernel_rfl) (by kernel_rfl) (fun _ _ _ h => h) (Or.inl ⟨by rfl, ?y6⟩) hHeld ?_
  case y6 => intro w hSw; go_simp
  simp only [Act.put, zp]
  refine wpAnyH_take (i := 7) (v := .agg (xcells ⟨hh', l2⟩ u').toArray) rfl (by kernel_rfl) (by kernel_rfl) (by kernel_rfl) (fun _ _ _ h => h) (yieldsIf_load_mid (by rfl) 43 _ rfl (b) (o + 4) rfl (xcells ⟨hh', l2⟩ u') _ (fun w h => h.2.2) Tryz.underlying43 rfl sizeIE2) hHeld ?_
  simp only [Act.put, zp]
  refine wpAnyH_take (i := 8) (v := .agg #[.int .i64 hh.k, .int .i64 hh.n, .string hh.s, u, .int .i64 hh'.k, .int .i64 hh'.n, .string hh'.s, u']) rfl (by kernel_rfl) (by kernel_rfl) (by kernel_rfl) (fun _ _ _ h => h) (Or.inl ⟨by rfl, ?y8⟩) hHeld ?_
  case y8 => intro w hSw; clear hSw c3 hHeld hbk; simp only [xcells]; go_simp
  simp only [Act.put, zp]
  refine wpAnyH_take (i := 9) (v := .iface 149 (.agg #[.int .i64 hh.k, .int .i64 hh.n, .string hh.s, u, .int .i64 hh'.k, .int .i64 hh'.n, .string hh'.s, u'])) rfl (by kernel_rfl) (by kernel_rfl) (by kernel_rfl) (fun _ _ _ h => h) (Or.inl ⟨by rfl, ?y9⟩) hHeld ?_
  case y9 => intro w hSw; go_simp
  simp only [Act.put, zp]
  refine wpAnyH_take (i := 10) (v := .iface 149 (.agg #[.int .i64 hh.k, .int .i64 hh.n, .string hh.s, u, .int .i64 hh'.k, .int .i64 hh'.n, .string hh'.s, u'])) rfl (by kernel_rfl) (by kernel_rfl) (by kernel_rfl) (fun _ _ _ h => h) (Or.inl ⟨by rfl, ?y10⟩) hHeld ?_
  case y10 => intro w hSw; go_simp
  simp only [Act.put, zp]
  refine wpAnyH_done (by kernel_rfl) ?_ _
  go_wp2
  go_ret
  exact ⟨_, rfl, .inr (.inr (.inr (.inl ⟨hf.out, p, q, p', q', ⟨hh, l1⟩, ⟨hh', l2⟩, u, u', rfl, HU.out.1, HU.out.2, rfl⟩))), hb1.drew⟩
set_option maxHeartbeats 1000000 in
set_option maxRecDepth 100000 in
theorem formOf_7 (k n : Int) (s : ByteArray) (l : EF) (w : World) (v : Value) (hv : EV w 0 l v) (hk : k = 7) : Calls Tryz.prog 102 #[.agg #[.int .i64 k, .int .i64 n, .string s, v]] w fun e w' => ∃ fv, e = .returned fv ∧ FormIs w ⟨⟨k, n, s⟩, l⟩ fv ∧ Below w.heap.size w w' := by
  obtain ⟨b, o, a, c, rfl, hao, _, hin⟩ := hv
  subst hk
  by_cases hn : n = 0
  case neg =>
    have hf : Hid (fnum ⟨7, n, s⟩ (elen l) = 0) := show fnum _ _ = 0 by simp [fnum, hn]
    have he := int_ne hn
    clear hao hin
    go_enter Tryz.func102, Tryz.ntmps102
    go_wp2
    go_ret
    exact form_nil hf.out (alloc_below _ _)
  subst hn
  by_cases hs : s.size = 0
  case neg =>
    have hf : Hid (fnum ⟨7, 0, s⟩ (elen l) = 0) := show fnum _ _ = 0 by simp [fnum, hs]
    have he := str_full hs
    clear hs hao hin
    go_enter Tryz.func102, Tryz.ntmps102
    go_wp2
    go_ret
    exact form_nil hf.out (alloc_below _ _)
  have he := str_empty hs
  by_cases hl : elen l = 2
  case neg =>
    have hf : Hid (fnum ⟨7, 0, s⟩ (elen l) = 0) := show fnum _ _ = 0 by simp [fnum, hl]
    have h1 : ((elen l : Int) == 2) = false := int_ne (by omega)
    clear hl hs hao hin
    go_enter Tryz.func102, Tryz.ntmps102
    go_wp2
    go_ret
    exact form_nil hf.out (alloc_below _ _)
  have hf : Hid (fnum ⟨7, 0, s⟩ (elen l) = 4) := show fnum _ _ = 4 by simp [fnum, hl, hs]
  obtain ⟨p, q, hh, l1, p', q', hh', l2, rfl⟩ := len2 hl
  obtain rfl : a = some ⟨b, o, Option.none⟩ := hao.resolve_right (by intro e; cases e)
  obtain ⟨⟨a0, a1, a2, u, a3, hu⟩, hin2⟩ := EIn_node.1 hin
  obtain ⟨⟨d0, d1, d2, u', d3, hu'⟩, _⟩ := EIn_node.1 hin2
  have ra : Hid (w.rangeAt b o (xcells ⟨hh, l1⟩ u)) := x_range (x := ⟨hh, l1⟩) a0 a1 a2 a3
  have rb : Hid (w.rangeAt b (o + 4) (xcells ⟨hh', l2⟩ u')) := x_range (x := ⟨hh', l2⟩) d0 d1 d2 d3
  have HU := hid (And.intro hu hu')
  clear hl hs hin hin2 hao a0 a1 a2 a3 hu d0 d1 d2 d3 hu'
  go_enter Tryz.func102, Tryz.ntmps102
  go_wp2_with fail
  simp only [elen] at *
  have hb1 : Below w.heap.size w (w.alloc (.cells #[.int .i64 7, .int .i64 0, .string s, .slice (some ⟨b, o, Option.none⟩) 2 c] 43)) := alloc_below _ _
  have hbk := new_cell w #[.int .i64 7, .int .i64 0, .string s, .slice (some ⟨b, o, Option.none⟩) 2 c] 43
  have c3 := hbk 3 _ rfl
  have ra2 := rangeAt_later ra.out hb1
  have rb2 := rangeAt_later rb.out hb1
  refine wp_region_held_drew (S := fun w' => w'.cell? ⟨w.heap.size, 3, Option.none⟩ = some (.slice (some ⟨b, o, Option.none⟩) 2 c) ∧ (w'.rangeAt b o (xcells ⟨hh, l1⟩ u) ∧ w'.rangeAt b (o + 4) (xcells ⟨hh', l2⟩ u'))) (by kernel_rfl) ⟨c3, ⟨(World.rangeAt_drew _ _ _ _).2 ra2, (World.rangeAt_drew _ _ _ _).2 rb2⟩⟩ (fun hHeld => ?_)
  refine wpAnyH_take (i := 0) (v := .pointer (some ⟨w.heap.size, 3, Option.none⟩)) rfl (by kernel_rfl) (by kernel_rfl) (by kernel_rfl) (fun _ _ _ h => h) (Or.inl ⟨by rfl, ?y0⟩) hHeld ?_
  case y0 => intro w hSw; go_simp
  simp only [Act.put, zp]
  refine wpAnyH_take (i := 1) (v := .slice (some ⟨b, o, Option.none⟩) 2 c) rfl (by kernel_rfl) (by kernel_rfl) (by kernel_rfl) (fun _ _ _ h => h) (Or.inl ⟨by rfl, ?y1⟩) hHeld ?_
  case y1 => intro w hSw; have q1 := hSw.1; clear hSw c3 hHeld hbk; go_simp
  simp only [Act.put, zp]
  refine wpAnyH_take (i := 2) (v := .pointer (some ⟨b, o, Option.none⟩)) rfl (by kernel_rfl) (by kernel_rfl) (by kernel_rfl) (fun _ _ _ h => h) (Or.inl ⟨by rfl, ?y2⟩) hHeld ?_
  case y2 => intro w hSw; go_simp
  simp only [Act.put, zp]
  refine wpAnyH_take (i := 3) (v := .agg (xcells ⟨hh, l1⟩ u).toArray) rfl (by kernel_rfl) (by kernel_rfl) (by kernel_rfl) (fun _ _ _ h => h) (yieldsIf_load_mid (by rfl) 43 _ rfl (b) (o) rfl (xcells ⟨hh, l1⟩ u) _ (fun w h => h.2.1) Tryz.underlying43 rfl sizeIE2) hHeld ?_
  simp only [Act.put, zp]
  refine wpAnyH_take (i := 4) (v := .pointer (some ⟨w.heap.size, 3, Option.none⟩)) rfl (by kernel_rfl) (by kernel_rfl) (by kernel_rfl) (fun _ _ _ h => h) (Or.inl ⟨by rfl, ?y4⟩) hHeld ?_
  case y4 => intro w hSw; go_simp
  simp only [Act.put, zp]
  refine wpAnyH_take (i := 5) (v := .slice (some ⟨b, o, Option.none⟩) 2 c) rfl (by kernel_rfl) (by kernel_rfl) (by kernel_rfl) (fun _ _ _ h => h) (Or.inl ⟨by rfl, ?y5⟩) hHeld ?_
  case y5 => intro w hSw; have q1 := hSw.1; clear hSw c3 hHeld hbk; go_simp
  simp only [Act.put, zp]
  refine wpAnyH_take (i := 6) (v := .pointer (some ⟨b, o + 4, Option.none⟩)) rfl (by kernel_rfl) (by kernel_rfl) (by kernel_rfl) (fun _ _ _ h => h) (Or.inl ⟨by rfl, ?y6⟩) hHeld ?_
  case y6 => intro w hSw; go_simp
  simp only [Act.put, zp]
  refine wpAnyH_take (i := 7) (v := .agg (xcells ⟨hh', l2⟩ u').toArray) rfl (by kernel_rfl) (by kernel_rfl) (by kernel_rfl) (fun _ _ _ h => h) (yieldsIf_load_mid (by rfl) 43 _ rfl (b) (o + 4) rfl (xcells ⟨hh', l2⟩ u') _ (fun w h => h.2.2) Tryz.underlying43 rfl sizeIE2) hHeld ?_
  simp only [Act.put, zp]
  refine wpAnyH_take (i := 8) (v := .agg #[.int .i64 hh.k, .int .i64 hh.n, .string hh.s, u, .int .i64 hh'.k, .int .i64 hh'.n, .string hh'.s, u']) rfl (by kernel_rfl) (by kernel_rfl) (by kernel_rfl) (fun _ _ _ h => h) (Or.inl ⟨by rfl, ?y8⟩) hHeld ?_
  case y8 => intro w hSw; clear hSw c3 hHeld hbk; simp only [xcells]; go_simp
  simp only [Act.put, zp]
  refine wpAnyH_take (i := 9) (v := .iface 149 (.agg #[.int .i64 hh.k, .int .i64 hh.n, .string hh.s, u, .int .i64 hh'.k, .int .i64 hh'.n, .string hh'.s, u'])) rfl (by kernel_rfl) (by kernel_rfl) (by kernel_rfl) (fun _ _ _ h => h) (Or.inl ⟨by rfl, ?y9⟩) hHeld ?_
  case y9 => intro w hSw; go_simp
  simp only [Act.put, zp]
  refine wpAnyH_take (i := 10) (v := .iface 149 (.agg #[.int .i64 hh.k, .int .i64 hh.n, .string hh.s, u, .int .i64 hh'.k, .int .i64 hh'.n, .string hh'.s, u'])) rfl (by kernel_rfl) (by kernel_rfl) (by kernel_rfl) (fun _ _ _ h => h) (Or.inl ⟨by rfl, ?y10⟩) hHeld ?_
  case y10 => intro w hSw; go_simp
  simp only [Act.put, zp]
  refine wpAnyH_done (by kernel_rfl) ?_ _
  go_wp2
  go_ret
  exact ⟨_, rfl, .inr (.inr (.inr (.inl ⟨hf.out, p, q, p', q', ⟨hh, l1⟩, ⟨hh', l2⟩, u, u', rfl, HU.out.1, HU.out.2, rfl⟩))), hb1.drew⟩
set_option maxHeartbeats 1000000 in
set_option maxRecDepth 100000 in
theorem formOf_8 (k n : Int) (s : ByteArray) (l : EF) (w : World) (v : Value) (hv : EV w 0 l v) (hk : k = 8) : Calls Tryz.prog 102 #[.agg #[.int .i64 k, .int .i64 n, .string s, v]] w fun e w' => ∃ fv, e = .returned fv ∧ FormIs w ⟨⟨k, n, s⟩, l⟩ fv ∧ Below w.heap.size w w' := by
  obtain ⟨b, o, a, c, rfl, hao, _, hin⟩ := hv
  subst hk
  by_cases hn : n = 0
  case neg =>
    have hf : Hid (fnum ⟨8, n, s⟩ (elen l) = 0) := show fnum _ _ = 0 by simp [fnum, hn]
    have he := int_ne hn
    clear hao hin
    go_enter Tryz.func102, Tryz.ntmps102
    go_wp2
    go_ret
    exact form_nil hf.out (alloc_below _ _)
  subst hn
  by_cases hs : s.size = 0
  case neg =>
    have hf : Hid (fnum ⟨8, 0, s⟩ (elen l) = 0) := show fnum _ _ = 0 by simp [fnum, hs]
    have he := str_full hs
    clear hs hao hin
    go_enter Tryz.func102, Tryz.ntmps102
    go_wp2
    go_ret
    exact form_nil hf.out (alloc_below _ _)
  have he := str_empty hs
  by_cases hl : elen l = 2
  case neg =>
    have hf : Hid (fnum ⟨8, 0, s⟩ (elen l) = 0) := show fnum _ _ = 0 by simp [fnum, hl]
    have h1 : ((elen l : Int) == 2) = false := int_ne (by omega)
    clear hl hs hao hin
    go_enter Tryz.func102, Tryz.ntmps102
    go_wp2
    go_ret
    exact form_nil hf.out (alloc_below _ _)
  have hf : Hid (fnum ⟨8, 0, s⟩ (elen l) = 4) := show fnum _ _ = 4 by simp [fnum, hl, hs]
  obtain ⟨p, q, hh, l1, p', q', hh', l2, rfl⟩ := len2 hl
  obtain rfl : a = some ⟨b, o, Option.none⟩ := hao.resolve_right (by intro e; cases e)
  obtain ⟨⟨a0, a1, a2, u, a3, hu⟩, hin2⟩ := EIn_node.1 hin
  obtain ⟨⟨d0, d1, d2, u', d3, hu'⟩, _⟩ := EIn_node.1 hin2
  have ra : Hid (w.rangeAt b o (xcells ⟨hh, l1⟩ u)) := x_range (x := ⟨hh, l1⟩) a0 a1 a2 a3
  have rb : Hid (w.rangeAt b (o + 4) (xcells ⟨hh', l2⟩ u')) := x_range (x := ⟨hh', l2⟩) d0 d1 d2 d3
  have HU := hid (And.intro hu hu')
  clear hl hs hin hin2 hao a0 a1 a2 a3 hu d0 d1 d2 d3 hu'
  go_enter Tryz.func102, Tryz.ntmps102
  go_wp2_with fail
  simp only [elen] at *
  have hb1 : Below w.heap.size w (w.alloc (.cells #[.int .i64 8, .int .i64 0, .string s, .slice (some ⟨b, o, Option.none⟩) 2 c] 43)) := alloc_below _ _
  have hbk := new_cell w #[.int .i64 8, .int .i64 0, .string s, .slice (some ⟨b, o, Option.none⟩) 2 c] 43
  have c3 := hbk 3 _ rfl
  have ra2 := rangeAt_later ra.out hb1
  have rb2 := rangeAt_later rb.out hb1
  refine wp_region_held_drew (S := fun w' => w'.cell? ⟨w.heap.size, 3, Option.none⟩ = some (.slice (some ⟨b, o, Option.none⟩) 2 c) ∧ (w'.rangeAt b o (xcells ⟨hh, l1⟩ u) ∧ w'.rangeAt b (o + 4) (xcells ⟨hh', l2⟩ u'))) (by kernel_rfl) ⟨c3, ⟨(World.rangeAt_drew _ _ _ _).2 ra2, (World.rangeAt_drew _ _ _ _).2 rb2⟩⟩ (fun hHeld => ?_)
  refine wpAnyH_take (i := 0) (v := .pointer (some ⟨w.heap.size, 3, Option.none⟩)) rfl (by kernel_rfl) (by kernel_rfl) (by kernel_rfl) (fun _ _ _ h => h) (Or.inl ⟨by rfl, ?y0⟩) hHeld ?_
  case y0 => intro w hSw; go_simp
  simp only [Act.put, zp]
  refine wpAnyH_take (i := 1) (v := .slice (some ⟨b, o, Option.none⟩) 2 c) rfl (by kernel_rfl) (by kernel_rfl) (by kernel_rfl) (fun _ _ _ h => h) (Or.inl ⟨by rfl, ?y1⟩) hHeld ?_
  case y1 => intro w hSw; have q1 := hSw.1; clear hSw c3 hHeld hbk; go_simp
  simp only [Act.put, zp]
  refine wpAnyH_take (i := 2) (v := .pointer (some ⟨b, o, Option.none⟩)) rfl (by kernel_rfl) (by kernel_rfl) (by kernel_rfl) (fun _ _ _ h => h) (Or.inl ⟨by rfl, ?y2⟩) hHeld ?_
  case y2 => intro w hSw; go_simp
  simp only [Act.put, zp]
  refine wpAnyH_take (i := 3) (v := .agg (xcells ⟨hh, l1⟩ u).toArray) rfl (by kernel_rfl) (by kernel_rfl) (by kernel_rfl) (fun _ _ _ h => h) (yieldsIf_load_mid (by rfl) 43 _ rfl (b) (o) rfl (xcells ⟨hh, l1⟩ u) _ (fun w h => h.2.1) Tryz.underlying43 rfl sizeIE2) hHeld ?_
  simp only [Act.put, zp]
  refine wpAnyH_take (i := 4) (v := .pointer (some ⟨w.heap.size, 3, Option.none⟩)) rfl (by kernel_rfl) (by kernel_rfl) (by kernel_rfl) (fun _ _ _ h => h) (Or.inl ⟨by rfl, ?y4⟩) hHeld ?_
  case y4 => intro w hSw; go_simp
  simp only [Act.put, zp]
  refine wpAnyH_take (i := 5) (v := .slice (some ⟨b, o, Option.none⟩) 2 c) rfl (by kernel_rfl) (by kernel_rfl) (by kernel_rfl) (fun _ _ _ h => h) (Or.inl ⟨by rfl, ?y5⟩) hHeld ?_
  case y5 => intro w hSw; have q1 := hSw.1; clear hSw c3 hHeld hbk; go_simp
  simp only [Act.put, zp]
  refine wpAnyH_take (i := 6) (v := .pointer (some ⟨b, o + 4, Option.none⟩)) rfl (by kernel_rfl) (by kernel_rfl) (by kernel_rfl) (fun _ _ _ h => h) (Or.inl ⟨by rfl, ?y6⟩) hHeld ?_
  case y6 => intro w hSw; go_simp
  simp only [Act.put, zp]
  refine wpAnyH_take (i := 7) (v := .agg (xcells ⟨hh', l2⟩ u').toArray) rfl (by kernel_rfl) (by kernel_rfl) (by kernel_rfl) (fun _ _ _ h => h) (yieldsIf_load_mid (by rfl) 43 _ rfl (b) (o + 4) rfl (xcells ⟨hh', l2⟩ u') _ (fun w h => h.2.2) Tryz.underlying43 rfl sizeIE2) hHeld ?_
  simp only [Act.put, zp]
  refine wpAnyH_take (i := 8) (v := .agg #[.int .i64 hh.k, .int .i64 hh.n, .string hh.s, u, .int .i64 hh'.k, .int .i64 hh'.n, .string hh'.s, u']) rfl (by kernel_rfl) (by kernel_rfl) (by kernel_rfl) (fun _ _ _ h => h) (Or.inl ⟨by rfl, ?y8⟩) hHeld ?_
  case y8 => intro w hSw; clear hSw c3 hHeld hbk; simp only [xcells]; go_simp
  simp only [Act.put, zp]
  refine wpAnyH_take (i := 9) (v := .iface 149 (.agg #[.int .i64 hh.k, .int .i64 hh.n, .string hh.s, u, .int .i64 hh'.k, .int .i64 hh'.n, .string hh'.s, u'])) rfl (by kernel_rfl) (by kernel_rfl) (by kernel_rfl) (fun _ _ _ h => h) (Or.inl ⟨by rfl, ?y9⟩) hHeld ?_
  case y9 => intro w hSw; go_simp
  simp only [Act.put, zp]
  refine wpAnyH_take (i := 10) (v := .iface 149 (.agg #[.int .i64 hh.k, .int .i64 hh.n, .string hh.s, u, .int .i64 hh'.k, .int .i64 hh'.n, .string hh'.s, u'])) rfl (by kernel_rfl) (by kernel_rfl) (by kernel_rfl) (fun _ _ _ h => h) (Or.inl ⟨by rfl, ?y10⟩) hHeld ?_
  case y10 => intro w hSw; go_simp
  simp only [Act.put, zp]
  refine wpAnyH_done (by kernel_rfl) ?_ _
  go_wp2
  go_ret
  exact ⟨_, rfl, .inr (.inr (.inr (.inl ⟨hf.out, p, q, p', q', ⟨hh, l1⟩, ⟨hh', l2⟩, u, u', rfl, HU.out.1, HU.out.2, rfl⟩))), hb1.drew⟩
set_option maxHeartbeats 1000000 in
set_option maxRecDepth 100000 in
theorem formOf_0 (k n : Int) (s : ByteArray) (l : EF) (w : World) (v : Value) (hv : EV w 0 l v) (hk : ¬ (1 ≤ k ∧ k ≤ 8)) : Calls Tryz.prog 102 #[.agg #[.int .i64 k, .int .i64 n, .string s, v]] w fun e w' => ∃ fv, e = .returned fv ∧ FormIs w ⟨⟨k, n, s⟩, l⟩ fv ∧ Below w.heap.size w w' := by
  obtain ⟨b, o, a, c, rfl, hao, _, hin⟩ := hv
  have hf : Hid (fnum ⟨k, n, s⟩ (elen l) = 0) := show fnum _ _ = 0 by
    simp only [fnum]
    rw [if_neg (by omega), if_neg (by omega), if_neg (by omega), if_neg (by omega)]
  have e1 : (k == 1) = false := int_ne (by omega)
  have e2 : (k == 2) = false := int_ne (by omega)
  have e3 : (k == 3) = false := int_ne (by omega)
  have e4 : (k == 4) = false := int_ne (by omega)
  have e5 : (k == 5) = false := int_ne (by omega)
  have e6 : (k == 6) = false := int_ne (by omega)
  have e7 : (k == 7) = false := int_ne (by omega)
  have e8 : (k == 8) = false := int_ne (by omega)
  clear hao hin hk
  go_enter Tryz.func102, Tryz.ntmps102
  go_wp2
  go_ret
  exact form_nil hf.out (alloc_below _ _)
theorem formOf_is (x : X) (w : World) (v : Value) (hv : EV w 0 x.l v) : Calls Tryz.prog 102 #[.agg (xcells x v).toArray] w fun e w' => ∃ fv, e = .returned fv ∧ FormIs w x fv ∧ Below w.heap.size w w' := by
  obtain ⟨⟨k, n, s⟩, l⟩ := x
  by_cases hk : 1 ≤ k ∧ k ≤ 8
  · obtain h | h | h | h | h | h | h | h : k = 1 ∨ k = 2 ∨ k = 3 ∨ k = 4 ∨ k = 5 ∨ k = 6 ∨ k = 7 ∨ k = 8 := by omega
    · exact formOf_1 k n s l w v hv h
    · exact formOf_2 k n s l w v hv h
    · exact formOf_3 k n s l w v hv h
    · exact formOf_4 k n s l w v hv h
    · exact formOf_5 k n s l w v hv h
    · exact formOf_6 k n s l w v hv h
    · exact formOf_7 k n s l w v hv h
    · exact formOf_8 k n s l w v hv h
  · exact formOf_0 k n s l w v hv hk
set_option maxHeartbeats 1000000 in
set_option maxRecDepth 100000 in
theorem slite_IndexByte (s : ByteArray) (c : Int) (w : World) :
    Calls Tryz.prog 234 #[.string s, .int .u8 c] w fun e w' => e = .returned (.int .i64 (firstIdx s c.toNat.toUInt8)) ∧ w = w' := by
  go_enter Tryz.func234, Tryz.ntmps234
  go_wp2
  rw [run_callFunc_extern Tryz.func236 (by kernel_rfl) (by kernel_rfl) (by kernel_rfl) (e := Extern.BytealgIndexByte.indexByte) (by kernel_rfl), run_indexByte_string]
  simp only [Result.andThen]
  rw [Oper.upon_value]
  go_wp2
  go_ret
  exact ⟨rfl, rfl⟩
set_option maxHeartbeats 1000000 in
theorem strings_IndexByte (s : ByteArray) (c : Int) (w : World) :
    Calls Tryz.prog 224 #[.string s, .int .u8 c] w fun e w' => e = .returned (.int .i64 (firstIdx s c.toNat.toUInt8)) ∧ w = w' := by
  go_enter Tryz.func224, Tryz.ntmps224
  go_wp2_with (go_at_call 234; refine (slite_IndexByte _ _ _).mono ?_; rintro e w' ⟨rfl, rfl⟩)
  go_ret
  exact ⟨rfl, rfl⟩
set_option maxHeartbeats 1000000 in
set_option maxRecDepth 100000 in
theorem IndexRune_ascii (s : ByteArray) (r : Int) (w : World) (h0 : 0 ≤ r) (h1 : r < 128) :
    Calls Tryz.prog 212 #[.string s, .int .i32 r] w fun e w' => e = .returned (.int .i64 (firstIdx s r.toNat.toUInt8)) ∧ w = w' := by
  go_enter Tryz.func212, Tryz.ntmps212
  go_wp2_with (go_at_call 224; refine (strings_IndexByte _ _ _).mono ?_; rintro e w' ⟨rfl, rfl⟩)
  go_ret
  exact ⟨rfl, rfl⟩
set_option maxHeartbeats 1000000 in
theorem ContainsRune_ascii (s : ByteArray) (r : Int) (w : World) (h0 : 0 ≤ r) (h1 : r < 128) :
    Calls Tryz.prog 206 #[.string s, .int .i32 r] w fun e w' => e = .returned (.bool (s.data.toList.any (· == r.toNat.toUInt8))) ∧ w = w' := by
  go_enter Tryz.func206, Tryz.ntmps206
  go_wp2_with (go_at_call 212; refine (IndexRune_ascii _ _ _ h0 h1).mono ?_; rintro e w' ⟨rfl, rfl⟩)
  go_ret
  exact ⟨by rw [← firstIdx_nonneg]; rfl, rfl⟩
def Asci (s : ByteArray) : Prop := ∀ b ∈ s.data.toList, b.toNat < 128
set_option maxHeartbeats 2000000 in
set_option maxRecDepth 100000 in
theorem IndexRune_error (s : ByteArray) (hs : Asci s) (w : World) :
    Calls Tryz.prog 212 #[.string s, .int .i32 65533] w fun e w' => e = .returned (.int .i64 (-1)) ∧ Below w.heap.size w w' := by
  go_enter Tryz.func212, Tryz.ntmps212
  go_wp2
  go_loopw [] (fun wr => ∃ pos, pos ≤ s.size ∧ wr = w.iter s pos) (fun wr => s.size - wr.iterPos w.heap.size)
  case atStart => exact ⟨0, by omega, rfl⟩
  case round =>
    obtain ⟨pos, hpos, rfl⟩ := hrel
    by_cases hp : pos < s.size
    · have ha : (s[pos]'hp).toNat < 128 := hs _ (Array.getElem_mem_toList (xs := s.data) hp)
      have hnx : ∀ ty, (Instr.next (.pointer (some ⟨w.heap.size, 0, none⟩)) true ty).run Tryz.prog (w.iter s pos) = _ := fun ty => run_next_ascii w s pos ty hp ha
      have hne : ¬ ((s[pos]'hp).toNat : Int) = 65533 := by omega
      go_wp2
      go_roundw
      case rel => exact ⟨pos + 1, by omega, rfl⟩
      case measure => simp [World.iterPos, World.iter_heap]; omega
    · have hnx : ∀ ty, (Instr.next (.pointer (some ⟨w.heap.size, 0, none⟩)) true ty).run Tryz.prog (w.iter s pos) = _ := fun ty => run_next_end w s pos ty hp
      go_wp2
      go_ret
      exact ⟨rfl, (Below.refl _ w).alloc (Nat.le_refl _) _⟩
theorem IndexByte_none (s : ByteArray) (c : UInt8) (hs : Asci s) (hc : 128 ≤ c.toNat) (a e n : Nat) (w : World) :
    Calls Tryz.prog 224 #[.string (s.extract a e), .int .u8 c.toNat] (w.drewN n) fun x w' => x = .returned (.int .i64 (-1)) ∧ w' = w.drewN n := by
  refine (strings_IndexByte _ _ _).mono ?_
  rintro x w' ⟨rfl, rfl⟩
  refine ⟨?_, rfl⟩
  have : ((c.toNat : Int)).toNat.toUInt8 = c := by simp
  rw [this, firstIdx_ascii s a e c hs hc]
theorem ValidRune_is (r : Int) (h0 : 0 ≤ r) (h1 : r ≤ 1114111) (b : Bool) (hb : Utf8.valid r = b) (w : World) :
    Calls Tryz.prog 225 #[.int .i32 r] w fun e w' => e = .returned (.bool b) ∧ w = w' := by
  subst hb
  have e : Utf8.valid r = (decide (r < 55296) || decide (57343 < r)) := by
    rw [validRune_eq]; unfold validRune
    by_cases h : r < 55296 <;> by_cases h' : 57343 < r <;> simp [h, h', h0, h1] <;> omega
  rw [e]
  by_cases h : r < 55296
  · go_enter Tryz.func225, Tryz.ntmps225
    go_wp2
    go_ret
    exact ⟨by simp [h], rfl⟩
  · by_cases h' : 57343 < r
    · go_enter Tryz.func225, Tryz.ntmps225
      go_wp2
      go_ret
      exact ⟨by simp [h, h'], rfl⟩
    · go_enter Tryz.func225, Tryz.ntmps225
      go_wp2
      go_ret
      exact ⟨by simp [h, h'], rfl⟩
set_option maxHeartbeats 4000000 in
set_option maxRecDepth 100000 in
theorem IndexRune_high (s : ByteArray) (hs : Asci s) (hl : s.size ≤ 1000000) (r : Int) (h0 : 128 ≤ r) (h1 : r ≤ 1114111) (hne : ¬ r = 65533) (w : World) :
    Calls Tryz.prog 212 #[.string s, .int .i32 r] w fun e w' => e = .returned (.int .i64 (-1)) ∧ Below w.heap.size w w' := by
  by_cases hv : Utf8.valid r = true
  · obtain ⟨e1, e2, e3⟩ := encode_facts r hv h0
    have hcv : ∀ w, (convert 21 9 (.int .i32 r)).run Tryz.prog w = .ok (.string (Utf8.encode r)) w := fun w => run_convert_int_string w _ _ _ _ (by rw [Tryz.underlying21]; rfl) Tryz.underlying9
    have hV := hid hv
    generalize Utf8.encode r = E at e1 e2 e3 hcv
    have h3 := e3 (by omega)
    clear e3 hv
    obtain ⟨n, hn⟩ : ∃ n, E.size = n + 1 := ⟨E.size - 1, by omega⟩
    have hnE : n < E.size := by omega
    have h4 : 128 ≤ (E[n]'hnE).toNat := by
      have e : ∀ m (hm : m < E.size), m = n → (E[m]'hm).toNat = (E[n]'hnE).toNat := by intro m hm e; subst e; rfl
      rw [← e (E.size - 1) (by omega) (by omega)]; exact h3
    clear h3
    go_enter Tryz.func212, Tryz.ntmps212
    go_wp2_with (go_at_call 225; refine (ValidRune_is r (by omega) h1 true hV.out _).mono ?_; rintro e w' ⟨rfl, rfl⟩)
    go_step3
    go_wp2
    go_loop [9, 10] (fun i f => i = .int .i64 (n : Int) ∧ f = .int .i64 0) (fun _ _ => 0)
    case atStart => exact ⟨by go_num, rfl⟩
    case round =>
      obtain ⟨rfl, rfl⟩ := hrel
      clear hn
      by_cases hp : n < s.size
      · have ha : (s[n]'hp).toNat < 128 := hs _ (Array.getElem_mem_toList (xs := s.data) hp)
        have hneq : ¬ ((s[n]'hp).toNat : Int) = ((E[n]'hnE).toNat : Int) := by omega
        have hpI : (n : Int) < (s.size : Int) := by omega
        have hnI : (n : Int) < (E.size : Int) := by omega
        have hwr : IntKind.i64.wrap ((n : Int) + 1) = (n : Int) + 1 := wrap_small _ (by omega) (by omega)
        have hsl : ∀ w, (Instr.slice 9 (.string s) (some (.int .i64 ((n : Int) + 1))) Option.none Option.none).run Tryz.prog w = .ok (.string (s.extract (n + 1) s.size)) w := by
          intro w
          rw [run_slice_string_from_if w _ _ _ _ Tryz.underlying9, if_pos ⟨by omega, by omega⟩]
          rfl
        go_wp2
        go_step3
        go_wp2
        go_quiet (fail)
        go_wp2
        go_quiet (exact (IndexByte_none s E[n] hs h4 _ _ _ w).mono fun _ _ h => ⟨h.1, _, h.2⟩)
        go_wp2
        rw [Exit.noGoto_ret]
        go_wp2
        rw [Exit.noGoto_ret]
        go_wp2
        go_ret
        exact ⟨rfl, ⟨rfl, rfl, rfl, Nat.le_refl _, fun _ _ => rfl⟩⟩
      · go_wp2
        go_ret
        exact ⟨rfl, Below.refl _ _⟩
  · have hV := hid (by simpa using hv : Utf8.valid r = false)
    clear hv
    go_enter Tryz.func212, Tryz.ntmps212
    go_wp2_with (go_at_call 225; refine (ValidRune_is r (by omega) h1 false hV.out _).mono ?_; rintro e w' ⟨rfl, rfl⟩)
    go_ret
    exact ⟨rfl, Below.refl _ _⟩
set_option maxHeartbeats 1000000 in
theorem ContainsRune_high (s : ByteArray) (hs : Asci s) (hl : s.size ≤ 1000000) (r : Int) (h0 : 128 ≤ r) (h1 : r ≤ 1114111) (w : World) :
    Calls Tryz.prog 206 #[.string s, .int .i32 r] w fun e w' => e = .returned (.bool false) ∧ Below w.heap.size w w' := by
  have hI : Calls Tryz.prog 212 #[.string s, .int .i32 r] w fun e w' => e = .returned (.int .i64 (-1)) ∧ Below w.heap.size w w' := by
    by_cases he : r = 65533
    · subst he; exact IndexRune_error s hs w
    · exact IndexRune_high s hs hl r h0 h1 he w
  go_enter Tryz.func206, Tryz.ntmps206
  go_wp2_with (go_at_call 212; refine hI.mono ?_; rintro e w' ⟨rfl, hb⟩)
  go_ret
  exact ⟨rfl, hb⟩
end Go.Proofs.YtfoghiminlbdaaaGreat
