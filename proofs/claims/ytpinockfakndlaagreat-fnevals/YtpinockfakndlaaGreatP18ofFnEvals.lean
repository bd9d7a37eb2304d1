import Derived.Test.YtpinockfakndlaaGreatZp
import Derived.Test.YtpinockfakndlaaGreatP02ofFnEvals
import Derived.Test.YtpinockfakndlaaGreatP03ofFnEvals
import Derived.Deep.AppendLies
import Derived.Test.YtpinockfakndlaaGreatP10ofFnEvals
namespace Go.Proofs.YtpinockfakndlaaGreat
open Go.RowKit Go.Lib
set_option maxRecDepth 100000
set_option maxHeartbeats 2000000
set_option linter.unusedSimpArgs false
set_option linter.unusedVariables false
def fnum (h : EH) (n : Nat) : Nat :=
  if h.k = 1 ∧ h.s.size = 0 ∧ n = 0 then 1
  else if h.k = 2 ∧ h.n = 0 ∧ n = 0 then 2
  else if h.k = 3 ∧ h.n = 0 ∧ n = 1 then 3
  else if 4 ≤ h.k ∧ h.k ≤ 8 ∧ h.n = 0 ∧ h.s.size = 0 ∧ n = 2 then 4
  else 0
def FormIs (w : World) (x : X) (fv : Value) : Prop :=
  (fnum x.h (elen x.l) = 1 ∧ fv = .iface 121 (.agg #[.int .i64 x.h.n])) ∨
  (fnum x.h (elen x.l) = 2 ∧ fv = .iface 123 (.agg #[.string x.h.s])) ∨
  (fnum x.h (elen x.l) = 3 ∧ ∃ (p q : Nat) (y : X) (u : Value), x.l = .node p q y.h y.l .nil ∧ EV w 0 y.l u ∧ fv = .iface 125 (.agg #[.string x.h.s, .int .i64 y.h.k, .int .i64 y.h.n, .string y.h.s, u])) ∨
  (fnum x.h (elen x.l) = 4 ∧ ∃ (p q p' q' : Nat) (y z : X) (u v : Value), x.l = .node p q y.h y.l (.node p' q' z.h z.l .nil) ∧ EV w 0 y.l u ∧ EV w 0 z.l v ∧ fv = .iface 128 (.agg #[.int .i64 y.h.k, .int .i64 y.h.n, .string y.h.s, u, .int .i64 z.h.k, .int .i64 z.h.n, .string z.h.s, v])) ∨
  (fnum x.h (elen x.l) = 0 ∧ fv = .nilIface)
theorem len1 {F : EF} (h : elen F = 1) : ∃ p q hh l, F = .node p q hh l .nil := by
  cases F with
  | nil => simp [elen] at h
  | node p q hh l r =>
    cases r with
    | nil => exact ⟨p, q, hh, l, rfl⟩
    | node _ _ _ _ _ => simp [elen] at h
theorem len2 {F : EF} (h : elen F = 2) : ∃ p q hh l p' q' hh' l', F = .node p q hh l (.node p' q' hh' l' .nil) := by
  cases F with
  | nil => simp [elen] at h
  | node p q hh l r =>
    obtain ⟨p', q', hh', l', rfl⟩ := len1 (F := r) (by simp only [elen] at h; omega)
    exact ⟨p, q, hh, l, p', q', hh', l', rfl⟩
theorem new_cell (w : World) (arr : Array Value) (t : TypeId) (j : Nat) (u : Value) (h : arr[j]? = some u) : (w.alloc (.cells arr t)).cell? ⟨w.heap.size, j, Option.none⟩ = some u := by
  have e : (w.alloc (.cells arr t)).heap[w.heap.size]? = some (.cells arr t (0, 0)) := by show (w.heap.push _)[w.heap.size]? = _; simp
  simp only [World.cell?, e]; exact h
theorem str_empty {s : ByteArray} (h : s.size = 0) : (s.toList == []) = true := by
  have : s.data.toList = [] := List.length_eq_zero_iff.1 (by simpa using h)
  rw [ByteArray.toList_eq, this]; rfl
theorem str_full {s : ByteArray} (h : ¬ s.size = 0) : (s.toList == []) = false := by
  rw [ByteArray.toList_eq, beq_eq_false_iff_ne]
  intro e
  exact h (by simpa using congrArg List.length e)
theorem form_nil {w w' : World} {x : X} (h : fnum x.h (elen x.l) = 0) (hb : Below w.heap.size w w') : ∃ fv, Ending.returned Value.nilIface = .returned fv ∧ FormIs w x fv ∧ Below w.heap.size w w' := ⟨_, rfl, .inr (.inr (.inr (.inr ⟨h, rfl⟩))), hb⟩
theorem formOf_1 (k n : Int) (s : ByteArray) (l : EF) (w : World) (v : Value) (hv : EV w 0 l v) (hk : k = 1) : Calls Tryz.prog 80 #[.agg #[.int .i64 k, .int .i64 n, .string s, v]] w fun e w' => ∃ fv, e = .returned fv ∧ FormIs w ⟨⟨k, n, s⟩, l⟩ fv ∧ Below w.heap.size w w' := by
  obtain ⟨b, o, a, c, rfl, hao, _, hin⟩ := hv
  subst hk
  by_cases hs : s.size = 0
  case neg =>
    have hf : Hid (fnum ⟨1, n, s⟩ (elen l) = 0) := show fnum _ _ = 0 by simp [fnum, hs]
    have he := str_full hs
    clear hs hao hin
    go_enter Tryz.func80, Tryz.ntmps80
    go_wp2
    go_ret
    exact form_nil hf.out (aB _ _)
  have he := str_empty hs
  by_cases hl : elen l = 0
  case neg =>
    have hf : Hid (fnum ⟨1, n, s⟩ (elen l) = 0) := show fnum _ _ = 0 by simp [fnum, hl]
    have h1 : ((elen l : Int) == 0) = false := int_ne (by omega)
    clear hs hl hao hin
    go_enter Tryz.func80, Tryz.ntmps80
    go_wp2
    go_ret
    exact form_nil hf.out (aB _ _)
  have hf : Hid (fnum ⟨1, n, s⟩ (elen l) = 1) := show fnum _ _ = 1 by simp [fnum, hl, hs]
  have h1 : ((elen l : Int) == 0) = true := by rw [beq_iff_eq]; omega
  clear hs hl hao hin
  go_enter Tryz.func80, Tryz.ntmps80
  go_wp2
  go_ret
  exact ⟨_, rfl, .inl ⟨hf.out, rfl⟩, aB _ _⟩
theorem formOf_2 (k n : Int) (s : ByteArray) (l : EF) (w : World) (v : Value) (hv : EV w 0 l v) (hk : k = 2) : Calls Tryz.prog 80 #[.agg #[.int .i64 k, .int .i64 n, .string s, v]] w fun e w' => ∃ fv, e = .returned fv ∧ FormIs w ⟨⟨k, n, s⟩, l⟩ fv ∧ Below w.heap.size w w' := by
  obtain ⟨b, o, a, c, rfl, hao, _, hin⟩ := hv
  subst hk
  by_cases hn : n = 0
  case neg =>
    have hf : Hid (fnum ⟨2, n, s⟩ (elen l) = 0) := show fnum _ _ = 0 by simp [fnum, hn]
    have he := int_ne hn
    clear hao hin
    go_enter Tryz.func80, Tryz.ntmps80
    go_wp2
    go_ret
    exact form_nil hf.out (aB _ _)
  subst hn
  by_cases hl : elen l = 0
  case neg =>
    have hf : Hid (fnum ⟨2, 0, s⟩ (elen l) = 0) := show fnum _ _ = 0 by simp [fnum, hl]
    have h1 : ((elen l : Int) == 0) = false := int_ne (by omega)
    clear hl hao hin
    go_enter Tryz.func80, Tryz.ntmps80
    go_wp2
    go_ret
    exact form_nil hf.out (aB _ _)
  have hf : Hid (fnum ⟨2, 0, s⟩ (elen l) = 2) := show fnum _ _ = 2 by simp [fnum, hl]
  have h1 : ((elen l : Int) == 0) = true := by rw [beq_iff_eq]; omega
  clear hl hao hin
  go_enter Tryz.func80, Tryz.ntmps80
  go_wp2
  go_ret
  exact ⟨_, rfl, .inr (.inl ⟨hf.out, rfl⟩), aB _ _⟩
theorem formOf_3 (k n : Int) (s : ByteArray) (l : EF) (w : World) (v : Value) (hv : EV w 0 l v) (hk : k = 3) : Calls Tryz.prog 80 #[.agg #[.int .i64 k, .int .i64 n, .string s, v]] w fun e w' => ∃ fv, e = .returned fv ∧ FormIs w ⟨⟨k, n, s⟩, l⟩ fv ∧ Below w.heap.size w w' := by
  obtain ⟨b, o, a, c, rfl, hao, _, hin⟩ := hv
  subst hk
  by_cases hn : n = 0
  case neg =>
    have hf : Hid (fnum ⟨3, n, s⟩ (elen l) = 0) := show fnum _ _ = 0 by simp [fnum, hn]
    have he := int_ne hn
    clear hao hin
    go_enter Tryz.func80, Tryz.ntmps80
    go_wp2
    go_ret
    exact form_nil hf.out (aB _ _)
  subst hn
  by_cases hl : elen l = 1
  case neg =>
    have hf : Hid (fnum ⟨3, 0, s⟩ (elen l) = 0) := show fnum _ _ = 0 by simp [fnum, hl]
    have h1 : ((elen l : Int) == 1) = false := int_ne (by omega)
    clear hl hao hin
    go_enter Tryz.func80, Tryz.ntmps80
    go_wp2
    go_ret
    exact form_nil hf.out (aB _ _)
  have hf : Hid (fnum ⟨3, 0, s⟩ (elen l) = 3) := show fnum _ _ = 3 by simp [fnum, hl]
  obtain ⟨p, q, hh, l', rfl⟩ := len1 hl
  obtain rfl : a = some ⟨b, o, Option.none⟩ := hao.resolve_right (by intro e; cases e)
  obtain ⟨⟨a0, a1, a2, u, a3, hu⟩, _⟩ := EIn_node.1 hin
  have ra : Hid (w.rangeAt b o (xC ⟨hh, l'⟩ u)) := x_range (x := ⟨hh, l'⟩) a0 a1 a2 a3
  have HU := hid hu
  clear hl hin hao a0 a1 a2 a3 hu
  go_enter Tryz.func80, Tryz.ntmps80
  go_wp2_with fail
  simp only [elen] at *
  have hb1 : Below w.heap.size w (w.alloc (.cells #[.int .i64 3, .int .i64 0, .string s, .slice (some ⟨b, o, Option.none⟩) 1 c] 43)) := aB _ _
  have hbk := new_cell w #[.int .i64 3, .int .i64 0, .string s, .slice (some ⟨b, o, Option.none⟩) 1 c] 43
  have c2 := hbk 2 _ rfl
  have c3 := hbk 3 _ rfl
  have ra2 := rangeAt_later ra.out hb1
  refine wp_region_held_drew (S := fun w' => (w'.cell? ⟨w.heap.size, 2, Option.none⟩ = some (.string s) ∧ w'.cell? ⟨w.heap.size, 3, Option.none⟩ = some (.slice (some ⟨b, o, Option.none⟩) 1 c)) ∧ w'.rangeAt b o (xC ⟨hh, l'⟩ u)) (by kernel_rfl) ⟨⟨c2, c3⟩, (World.rangeAt_drew _ _ _ _).2 ra2⟩ (fun hHeld => ?_)
  refine wpAnyH_take (i := 0) (v := .pointer (some ⟨w.heap.size, 2, Option.none⟩)) rfl (by kernel_rfl) (by kernel_rfl) (by kernel_rfl) (fun _ _ _ => id) (Or.inl ⟨by rfl, ?y0⟩) hHeld ?_
  case y0 => intro w hSw; go_simp
  simp only [Act.put, zp]
  refine wpAnyH_take (i := 1) (v := .string s) rfl (by kernel_rfl) (by kernel_rfl) (by kernel_rfl) (fun _ _ _ => id) (Or.inl ⟨by rfl, ?y1⟩) hHeld ?_
  case y1 => intro w hSw; have q1 := hSw.1.1; clear hSw c2 c3 hHeld hbk; go_simp
  simp only [Act.put, zp]
  refine wpAnyH_take (i := 2) (v := .pointer (some ⟨w.heap.size, 3, Option.none⟩)) rfl (by kernel_rfl) (by kernel_rfl) (by kernel_rfl) (fun _ _ _ => id) (Or.inl ⟨by rfl, ?y2⟩) hHeld ?_
  case y2 => intro w hSw; go_simp
  simp only [Act.put, zp]
  refine wpAnyH_take (i := 3) (v := .slice (some ⟨b, o, Option.none⟩) 1 c) rfl (by kernel_rfl) (by kernel_rfl) (by kernel_rfl) (fun _ _ _ => id) (Or.inl ⟨by rfl, ?y3⟩) hHeld ?_
  case y3 => intro w hSw; have q1 := hSw.1.2; clear hSw c2 c3 hHeld hbk; go_simp
  simp only [Act.put, zp]
  refine wpAnyH_take (i := 4) (v := .pointer (some ⟨b, o, Option.none⟩)) rfl (by kernel_rfl) (by kernel_rfl) (by kernel_rfl) (fun _ _ _ => id) (Or.inl ⟨by rfl, ?y4⟩) hHeld ?_
  case y4 => intro w hSw; go_simp
  simp only [Act.put, zp]
  refine wpAnyH_take (i := 5) (v := .agg (xC ⟨hh, l'⟩ u).toArray) rfl (by kernel_rfl) (by kernel_rfl) (by kernel_rfl) (fun _ _ _ => id) (yieldsIf_load_mid (by rfl) 43 _ rfl (b) (o) rfl (xC ⟨hh, l'⟩ u) _ (fun w h => h.2) Tryz.underlying43 rfl sizeIE2) hHeld ?_
  simp only [Act.put, zp]
  refine wpAnyH_take (i := 6) (v := .agg #[.string s, .int .i64 hh.k, .int .i64 hh.n, .string hh.s, u]) rfl (by kernel_rfl) (by kernel_rfl) (by kernel_rfl) (fun _ _ _ => id) (Or.inl ⟨by rfl, ?y6⟩) hHeld ?_
  case y6 => intro w hSw; clear hSw c2 c3 hHeld hbk; simp only [xC]; go_simp
  simp only [Act.put, zp]
  refine wpAnyH_take (i := 7) (v := .iface 125 (.agg #[.string s, .int .i64 hh.k, .int .i64 hh.n, .string hh.s, u])) rfl (by kernel_rfl) (by kernel_rfl) (by kernel_rfl) (fun _ _ _ => id) (Or.inl ⟨by rfl, ?y7⟩) hHeld ?_
  case y7 => intro w hSw; go_simp
  simp only [Act.put, zp]
  refine wpAnyH_take (i := 8) (v := .iface 125 (.agg #[.string s, .int .i64 hh.k, .int .i64 hh.n, .string hh.s, u])) rfl (by kernel_rfl) (by kernel_rfl) (by kernel_rfl) (fun _ _ _ => id) (Or.inl ⟨by rfl, ?y8⟩) hHeld ?_
  case y8 => intro w hSw; go_simp
  simp only [Act.put, zp]
  refine wpAnyH_done (by kernel_rfl) ?_ _
  go_wp2
  go_ret
  exact ⟨_, rfl, .inr (.inr (.inl ⟨hf.out, p, q, ⟨hh, l'⟩, u, rfl, HU.out, rfl⟩)), hb1.drew⟩
theorem formOf_4 (k n : Int) (s : ByteArray) (l : EF) (w : World) (v : Value) (hv : EV w 0 l v) (hk : k = 4) : Calls Tryz.prog 80 #[.agg #[.int .i64 k, .int .i64 n, .string s, v]] w fun e w' => ∃ fv, e = .returned fv ∧ FormIs w ⟨⟨k, n, s⟩, l⟩ fv ∧ Below w.heap.size w w' := by
  obtain ⟨b, o, a, c, rfl, hao, _, hin⟩ := hv
  subst hk
  by_cases hn : n = 0
  case neg =>
    have hf : Hid (fnum ⟨4, n, s⟩ (elen l) = 0) := show fnum _ _ = 0 by simp [fnum, hn]
    have he := int_ne hn
    clear hao hin
    go_enter Tryz.func80, Tryz.ntmps80
    go_wp2
    go_ret
    exact form_nil hf.out (aB _ _)
  subst hn
  by_cases hs : s.size = 0
  case neg =>
    have hf : Hid (fnum ⟨4, 0, s⟩ (elen l) = 0) := show fnum _ _ = 0 by simp [fnum, hs]
    have he := str_full hs
    clear hs hao hin
    go_enter Tryz.func80, Tryz.ntmps80
    go_wp2
    go_ret
    exact form_nil hf.out (aB _ _)
  have he := str_empty hs
  by_cases hl : elen l = 2
  case neg =>
    have hf : Hid (fnum ⟨4, 0, s⟩ (elen l) = 0) := show fnum _ _ = 0 by simp [fnum, hl]
    have h1 : ((elen l : Int) == 2) = false := int_ne (by omega)
    clear hl hs hao hin
    go_enter Tryz.func80, Tryz.ntmps80
    go_wp2
    go_ret
    exact form_nil hf.out (aB _ _)
  have hf : Hid (fnum ⟨4, 0, s⟩ (elen l) = 4) := show fnum _ _ = 4 by simp [fnum, hl, hs]
  obtain ⟨p, q, hh, l1, p', q', hh', l2, rfl⟩ := len2 hl
  obtain rfl : a = some ⟨b, o, Option.none⟩ := hao.resolve_right (by intro e; cases e)
  obtain ⟨⟨a0, a1, a2, u, a3, hu⟩, hin2⟩ := EIn_node.1 hin
  obtain ⟨⟨d0, d1, d2, u', d3, hu'⟩, _⟩ := EIn_node.1 hin2
  have ra : Hid (w.rangeAt b o (xC ⟨hh, l1⟩ u)) := x_range (x := ⟨hh, l1⟩) a0 a1 a2 a3
  have rb : Hid (w.rangeAt b (o + 4) (xC ⟨hh', l2⟩ u')) := x_range (x := ⟨hh', l2⟩) d0 d1 d2 d3
  have HU := hid (And.intro hu hu')
  clear hl hs hin hin2 hao a0 a1 a2 a3 hu d0 d1 d2 d3 hu'
  go_enter Tryz.func80, Tryz.ntmps80
  go_wp2_with fail
  simp only [elen] at *
  have hb1 : Below w.heap.size w (w.alloc (.cells #[.int .i64 4, .int .i64 0, .string s, .slice (some ⟨b, o, Option.none⟩) 2 c] 43)) := aB _ _
  have hbk := new_cell w #[.int .i64 4, .int .i64 0, .string s, .slice (some ⟨b, o, Option.none⟩) 2 c] 43
  have c3 := hbk 3 _ rfl
  have ra2 := rangeAt_later ra.out hb1
  have rb2 := rangeAt_later rb.out hb1
  refine wp_region_held_drew (S := fun w' => w'.cell? ⟨w.heap.size, 3, Option.none⟩ = some (.slice (some ⟨b, o, Option.none⟩) 2 c) ∧ (w'.rangeAt b o (xC ⟨hh, l1⟩ u) ∧ w'.rangeAt b (o + 4) (xC ⟨hh', l2⟩ u'))) (by kernel_rfl) ⟨c3, ⟨(World.rangeAt_drew _ _ _ _).2 ra2, (World.rangeAt_drew _ _ _ _).2 rb2⟩⟩ (fun hHeld => ?_)
  refine wpAnyH_take (i := 0) (v := .pointer (some ⟨w.heap.size, 3, Option.none⟩)) rfl (by kernel_rfl) (by kernel_rfl) (by kernel_rfl) (fun _ _ _ => id) (Or.inl ⟨by rfl, ?y0⟩) hHeld ?_
  case y0 => intro w hSw; go_simp
  simp only [Act.put, zp]
  refine wpAnyH_take (i := 1) (v := .slice (some ⟨b, o, Option.none⟩) 2 c) rfl (by kernel_rfl) (by kernel_rfl) (by kernel_rfl) (fun _ _ _ => id) (Or.inl ⟨by rfl, ?y1⟩) hHeld ?_
  case y1 => intro w hSw; have q1 := hSw.1; clear hSw c3 hHeld hbk; go_simp
  simp only [Act.put, zp]
  refine wpAnyH_take (i := 2) (v := .pointer (some ⟨b, o, Option.none⟩)) rfl (by kernel_rfl) (by kernel_rfl) (by kernel_rfl) (fun _ _ _ => id) (Or.inl ⟨by rfl, ?y2⟩) hHeld ?_
  case y2 => intro w hSw; go_simp
  simp only [Act.put, zp]
  refine wpAnyH_take (i := 3) (v := .agg (xC ⟨hh, l1⟩ u).toArray) rfl (by kernel_rfl) (by kernel_rfl) (by kernel_rfl) (fun _ _ _ => id) (yieldsIf_load_mid (by rfl) 43 _ rfl (b) (o) rfl (xC ⟨hh, l1⟩ u) _ (fun w h => h.2.1) Tryz.underlying43 rfl sizeIE2) hHeld ?_
  simp only [Act.put, zp]
  refine wpAnyH_take (i := 4) (v := .pointer (some ⟨w.heap.size, 3, Option.none⟩)) rfl (by kernel_rfl) (by kernel_rfl) (by kernel_rfl) (fun _ _ _ => id) (Or.inl ⟨by rfl, ?y4⟩) hHeld ?_
  case y4 => intro w hSw; go_simp
  simp only [Act.put, zp]
  refine wpAnyH_take (i := 5) (v := .slice (some ⟨b, o, Option.none⟩) 2 c) rfl (by kernel_rfl) (by kernel_rfl) (by kernel_rfl) (fun _ _ _ => id) (Or.inl ⟨by rfl, ?y5⟩) hHeld ?_
  case y5 => intro w hSw; have q1 := hSw.1; clear hSw c3 hHeld hbk; go_simp
  simp only [Act.put, zp]
  refine wpAnyH_take (i := 6) (v := .pointer (some ⟨b, o + 4, Option.none⟩)) rfl (by kernel_rfl) (by kernel_rfl) (by kernel_rfl) (fun _ _ _ => id) (Or.inl ⟨by rfl, ?y6⟩) hHeld ?_
  case y6 => intro w hSw; go_simp
  simp only [Act.put, zp]
  refine wpAnyH_take (i := 7) (v := .agg (xC ⟨hh', l2⟩ u').toArray) rfl (by kernel_rfl) (by kernel_rfl) (by kernel_rfl) (fun _ _ _ => id) (yieldsIf_load_mid (by rfl) 43 _ rfl (b) (o + 4) rfl (xC ⟨hh', l2⟩ u') _ (fun w h => h.2.2) Tryz.underlying43 rfl sizeIE2) hHeld ?_
  simp only [Act.put, zp]
  refine wpAnyH_take (i := 8) (v := .agg #[.int .i64 hh.k, .int .i64 hh.n, .string hh.s, u, .int .i64 hh'.k, .int .i64 hh'.n, .string hh'.s, u']) rfl (by kernel_rfl) (by kernel_rfl) (by kernel_rfl) (fun _ _ _ => id) (Or.inl ⟨by rfl, ?y8⟩) hHeld ?_
  case y8 => intro w hSw; clear hSw c3 hHeld hbk; simp only [xC]; go_simp
  simp only [Act.put, zp]
  refine wpAnyH_take (i := 9) (v := .iface 128 (.agg #[.int .i64 hh.k, .int .i64 hh.n, .string hh.s, u, .int .i64 hh'.k, .int .i64 hh'.n, .string hh'.s, u'])) rfl (by kernel_rfl) (by kernel_rfl) (by kernel_rfl) (fun _ _ _ => id) (Or.inl ⟨by rfl, ?y9⟩) hHeld ?_
  case y9 => intro w hSw; go_simp
  simp only [Act.put, zp]
  refine wpAnyH_take (i := 10) (v := .iface 128 (.agg #[.int .i64 hh.k, .int .i64 hh.n, .string hh.s, u, .int .i64 hh'.k, .int .i64 hh'.n, .string hh'.s, u'])) rfl (by kernel_rfl) (by kernel_rfl) (by kernel_rfl) (fun _ _ _ => id) (Or.inl ⟨by rfl, ?y10⟩) hHeld ?_
  case y10 => intro w hSw; go_simp
  simp only [Act.put, zp]
  refine wpAnyH_done (by kernel_rfl) ?_ _
  go_wp2
  go_ret
  exact ⟨_, rfl, .inr (.inr (.inr (.inl ⟨hf.out, p, q, p', q', ⟨hh, l1⟩, ⟨hh', l2⟩, u, u', rfl, HU.out.1, HU.out.2, rfl⟩))), hb1.drew⟩
theorem formOf_5 (k n : Int) (s : ByteArray) (l : EF) (w : World) (v : Value) (hv : EV w 0 l v) (hk : k = 5) : Calls Tryz.prog 80 #[.agg #[.int .i64 k, .int .i64 n, .string s, v]] w fun e w' => ∃ fv, e = .returned fv ∧ FormIs w ⟨⟨k, n, s⟩, l⟩ fv ∧ Below w.heap.size w w' := by
  obtain ⟨b, o, a, c, rfl, hao, _, hin⟩ := hv
  subst hk
  by_cases hn : n = 0
  case neg =>
    have hf : Hid (fnum ⟨5, n, s⟩ (elen l) = 0) := show fnum _ _ = 0 by simp [fnum, hn]
    have he := int_ne hn
    clear hao hin
    go_enter Tryz.func80, Tryz.ntmps80
    go_wp2
    go_ret
    exact form_nil hf.out (aB _ _)
  subst hn
  by_cases hs : s.size = 0
  case neg =>
    have hf : Hid (fnum ⟨5, 0, s⟩ (elen l) = 0) := show fnum _ _ = 0 by simp [fnum, hs]
    have he := str_full hs
    clear hs hao hin
    go_enter Tryz.func80, Tryz.ntmps80
    go_wp2
    go_ret
    exact form_nil hf.out (aB _ _)
  have he := str_empty hs
  by_cases hl : elen l = 2
  case neg =>
    have hf : Hid (fnum ⟨5, 0, s⟩ (elen l) = 0) := show fnum _ _ = 0 by simp [fnum, hl]
    have h1 : ((elen l : Int) == 2) = false := int_ne (by omega)
    clear hl hs hao hin
    go_enter Tryz.func80, Tryz.ntmps80
    go_wp2
    go_ret
    exact form_nil hf.out (aB _ _)
  have hf : Hid (fnum ⟨5, 0, s⟩ (elen l) = 4) := show fnum _ _ = 4 by simp [fnum, hl, hs]
  obtain ⟨p, q, hh, l1, p', q', hh', l2, rfl⟩ := len2 hl
  obtain rfl : a = some ⟨b, o, Option.none⟩ := hao.resolve_right (by intro e; cases e)
  obtain ⟨⟨a0, a1, a2, u, a3, hu⟩, hin2⟩ := EIn_node.1 hin
  obtain ⟨⟨d0, d1, d2, u', d3, hu'⟩, _⟩ := EIn_node.1 hin2
  have ra : Hid (w.rangeAt b o (xC ⟨hh, l1⟩ u)) := x_range (x := ⟨hh, l1⟩) a0 a1 a2 a3
  have rb : Hid (w.rangeAt b (o + 4) (xC ⟨hh', l2⟩ u')) := x_range (x := ⟨hh', l2⟩) d0 d1 d2 d3
  have HU := hid (And.intro hu hu')
  clear hl hs hin hin2 hao a0 a1 a2 a3 hu d0 d1 d2 d3 hu'
  go_enter Tryz.func80, Tryz.ntmps80
  go_wp2_with fail
  simp only [elen] at *
  have hb1 : Below w.heap.size w (w.alloc (.cells #[.int .i64 5, .int .i64 0, .string s, .slice (some ⟨b, o, Option.none⟩) 2 c] 43)) := aB _ _
  have hbk := new_cell w #[.int .i64 5, .int .i64 0, .string s, .slice (some ⟨b, o, Option.none⟩) 2 c] 43
  have c3 := hbk 3 _ rfl
  have ra2 := rangeAt_later ra.out hb1
  have rb2 := rangeAt_later rb.out hb1
  refine wp_region_held_drew (S := fun w' => w'.cell? ⟨w.heap.size, 3, Option.none⟩ = some (.slice (some ⟨b, o, Option.none⟩) 2 c) ∧ (w'.rangeAt b o (xC ⟨hh, l1⟩ u) ∧ w'.rangeAt b (o + 4) (xC ⟨hh', l2⟩ u'))) (by kernel_rfl) ⟨c3, ⟨(World.rangeAt_drew _ _ _ _).2 ra2, (World.rangeAt_drew _ _ _ _).2 rb2⟩⟩ (fun hHeld => ?_)
  refine wpAnyH_take (i := 0) (v := .pointer (some ⟨w.heap.size, 3, Option.none⟩)) rfl (by kernel_rfl) (by kernel_rfl) (by kernel_rfl) (fun _ _ _ => id) (Or.inl ⟨by rfl, ?y0⟩) hHeld ?_
  case y0 => intro w hSw; go_simp
  simp only [Act.put, zp]
  refine wpAnyH_take (i := 1) (v := .slice (some ⟨b, o, Option.none⟩) 2 c) rfl (by kernel_rfl) (by kernel_rfl) (by kernel_rfl) (fun _ _ _ => id) (Or.inl ⟨by rfl, ?y1⟩) hHeld ?_
  case y1 => intro w hSw; have q1 := hSw.1; clear hSw c3 hHeld hbk; go_simp
  simp only [Act.put, zp]
  refine wpAnyH_take (i := 2) (v := .pointer (some ⟨b, o, Option.none⟩)) rfl (by kernel_rfl) (by kernel_rfl) (by kernel_rfl) (fun _ _ _ => id) (Or.inl ⟨by rfl, ?y2⟩) hHeld ?_
  case y2 => intro w hSw; go_simp
  simp only [Act.put, zp]
  refine wpAnyH_take (i := 3) (v := .agg (xC ⟨hh, l1⟩ u).toArray) rfl (by kernel_rfl) (by kernel_rfl) (by kernel_rfl) (fun _ _ _ => id) (yieldsIf_load_mid (by rfl) 43 _ rfl (b) (o) rfl (xC ⟨hh, l1⟩ u) _ (fun w h => h.2.1) Tryz.underlying43 rfl sizeIE2) hHeld ?_
  simp only [Act.put, zp]
  refine wpAnyH_take (i := 4) (v := .pointer (some ⟨w.heap.size, 3, Option.none⟩)) rfl (by kernel_rfl) (by kernel_rfl) (by kernel_rfl) (fun _ _ _ => id) (Or.inl ⟨by rfl, ?y4⟩) hHeld ?_
  case y4 => intro w hSw; go_simp
  simp only [Act.put, zp]
  refine wpAnyH_take (i := 5) (v := .slice (some ⟨b, o, Option.none⟩) 2 c) rfl (by kernel_rfl) (by kernel_rfl) (by kernel_rfl) (fun _ _ _ => id) (Or.inl ⟨by rfl, ?y5⟩) hHeld ?_
  case y5 => intro w hSw; have q1 := hSw.1; clear hSw c3 hHeld hbk; go_simp
  simp only [Act.put, zp]
  refine wpAnyH_take (i := 6) (v := .pointer (some ⟨b, o + 4, Option.none⟩)) rfl (by kernel_rfl) (by kernel_rfl) (by kernel_rfl) (fun _ _ _ => id) (Or.inl ⟨by rfl, ?y6⟩) hHeld ?_
  case y6 => intro w hSw; go_simp
  simp only [Act.put, zp]
  refine wpAnyH_take (i := 7) (v := .agg (xC ⟨hh', l2⟩ u').toArray) rfl (by kernel_rfl) (by kernel_rfl) (by kernel_rfl) (fun _ _ _ => id) (yieldsIf_load_mid (by rfl) 43 _ rfl (b) (o + 4) rfl (xC ⟨hh', l2⟩ u') _ (fun w h => h.2.2) Tryz.underlying43 rfl sizeIE2) hHeld ?_
  simp only [Act.put, zp]
  refine wpAnyH_take (i := 8) (v := .agg #[.int .i64 hh.k, .int .i64 hh.n, .string hh.s, u, .int .i64 hh'.k, .int .i64 hh'.n, .string hh'.s, u']) rfl (by kernel_rfl) (by kernel_rfl) (by kernel_rfl) (fun _ _ _ => id) (Or.inl ⟨by rfl, ?y8⟩) hHeld ?_
  case y8 => intro w hSw; clear hSw c3 hHeld hbk; simp only [xC]; go_simp
  simp only [Act.put, zp]
  refine wpAnyH_take (i := 9) (v := .iface 128 (.agg #[.int .i64 hh.k, .int .i64 hh.n, .string hh.s, u, .int .i64 hh'.k, .int .i64 hh'.n, .string hh'.s, u'])) rfl (by kernel_rfl) (by kernel_rfl) (by kernel_rfl) (fun _ _ _ => id) (Or.inl ⟨by rfl, ?y9⟩) hHeld ?_
  case y9 => intro w hSw; go_simp
  simp only [Act.put, zp]
  refine wpAnyH_take (i := 10) (v := .iface 128 (.agg #[.int .i64 hh.k, .int .i64 hh.n, .string hh.s, u, .int .i64 hh'.k, .int .i64 hh'.n, .string hh'.s, u'])) rfl (by kernel_rfl) (by kernel_rfl) (by kernel_rfl) (fun _ _ _ => id) (Or.inl ⟨by rfl, ?y10⟩) hHeld ?_
  case y10 => intro w hSw; go_simp
  simp only [Act.put, zp]
  refine wpAnyH_done (by kernel_rfl) ?_ _
  go_wp2
  go_ret
  exact ⟨_, rfl, .inr (.inr (.inr (.inl ⟨hf.out, p, q, p', q', ⟨hh, l1⟩, ⟨hh', l2⟩, u, u', rfl, HU.out.1, HU.out.2, rfl⟩))), hb1.drew⟩
theorem formOf_6 (k n : Int) (s : ByteArray) (l : EF) (w : World) (v : Value) (hv : EV w 0 l v) (hk : k = 6) : Calls Tryz.prog 80 #[.agg #[.int .i64 k, .int .i64 n, .string s, v]] w fun e w' => ∃ fv, e = .returned fv ∧ FormIs w ⟨⟨k, n, s⟩, l⟩ fv ∧ Below w.heap.size w w' := by
  obtain ⟨b, o, a, c, rfl, hao, _, hin⟩ := hv
  subst hk
  by_cases hn : n = 0
  case neg =>
    have hf : Hid (fnum ⟨6, n, s⟩ (elen l) = 0) := show fnum _ _ = 0 by simp [fnum, hn]
    have he := int_ne hn
    clear hao hin
    go_enter Tryz.func80, Tryz.ntmps80
    go_wp2
    go_ret
    exact form_nil hf.out (aB _ _)
  subst hn
  by_cases hs : s.size = 0
  case neg =>
    have hf : Hid (fnum ⟨6, 0, s⟩ (elen l) = 0) := show fnum _ _ = 0 by simp [fnum, hs]
    have he := str_full hs
    clear hs hao hin
    go_enter Tryz.func80, Tryz.ntmps80
    go_wp2
    go_ret
    exact form_nil hf.out (aB _ _)
  have he := str_empty hs
  by_cases hl : elen l = 2
  case neg =>
    have hf : Hid (fnum ⟨6, 0, s⟩ (elen l) = 0) := show fnum _ _ = 0 by simp [fnum, hl]
    have h1 : ((elen l : Int) == 2) = false := int_ne (by omega)
    clear hl hs hao hin
    go_enter Tryz.func80, Tryz.ntmps80
    go_wp2
    go_ret
    exact form_nil hf.out (aB _ _)
  have hf : Hid (fnum ⟨6, 0, s⟩ (elen l) = 4) := show fnum _ _ = 4 by simp [fnum, hl, hs]
  obtain ⟨p, q, hh, l1, p', q', hh', l2, rfl⟩ := len2 hl
  obtain rfl : a = some ⟨b, o, Option.none⟩ := hao.resolve_right (by intro e; cases e)
  obtain ⟨⟨a0, a1, a2, u, a3, hu⟩, hin2⟩ := EIn_node.1 hin
  obtain ⟨⟨d0, d1, d2, u', d3, hu'⟩, _⟩ := EIn_node.1 hin2
  have ra : Hid (w.rangeAt b o (xC ⟨hh, l1⟩ u)) := x_range (x := ⟨hh, l1⟩) a0 a1 a2 a3
  have rb : Hid (w.rangeAt b (o + 4) (xC ⟨hh', l2⟩ u')) := x_range (x := ⟨hh', l2⟩) d0 d1 d2 d3
  have HU := hid (And.intro hu hu')
  clear hl hs hin hin2 hao a0 a1 a2 a3 hu d0 d1 d2 d3 hu'
  go_enter Tryz.func80, Tryz.ntmps80
  go_wp2_with fail
  simp only [elen] at *
  have hb1 : Below w.heap.size w (w.alloc (.cells #[.int .i64 6, .int .i64 0, .string s, .slice (some ⟨b, o, Option.none⟩) 2 c] 43)) := aB _ _
  have hbk := new_cell w #[.int .i64 6, .int .i64 0, .string s, .slice (some ⟨b, o, Option.none⟩) 2 c] 43
  have c3 := hbk 3 _ rfl
  have ra2 := rangeAt_later ra.out hb1
  have rb2 := rangeAt_later rb.out hb1
  refine wp_region_held_drew (S := fun w' => w'.cell? ⟨w.heap.size, 3, Option.none⟩ = some (.slice (some ⟨b, o, Option.none⟩) 2 c) ∧ (w'.rangeAt b o (xC ⟨hh, l1⟩ u) ∧ w'.rangeAt b (o + 4) (xC ⟨hh', l2⟩ u'))) (by kernel_rfl) ⟨c3, ⟨(World.rangeAt_drew _ _ _ _).2 ra2, (World.rangeAt_drew _ _ _ _).2 rb2⟩⟩ (fun hHeld => ?_)
  refine wpAnyH_take (i := 0) (v := .pointer (some ⟨w.heap.size, 3, Option.none⟩)) rfl (by kernel_rfl) (by kernel_rfl) (by kernel_rfl) (fun _ _ _ => id) (Or.inl ⟨by rfl, ?y0⟩) hHeld ?_
  case y0 => intro w hSw; go_simp
  simp only [Act.put, zp]
  refine wpAnyH_take (i := 1) (v := .slice (some ⟨b, o, Option.none⟩) 2 c) rfl (by kernel_rfl) (by kernel_rfl) (by kernel_rfl) (fun _ _ _ => id) (Or.inl ⟨by rfl, ?y1⟩) hHeld ?_
  case y1 => intro w hSw; have q1 := hSw.1; clear hSw c3 hHeld hbk; go_simp
  simp only [Act.put, zp]
  refine wpAnyH_take (i := 2) (v := .pointer (some ⟨b, o, Option.none⟩)) rfl (by kernel_rfl) (by kernel_rfl) (by kernel_rfl) (fun _ _ _ => id) (Or.inl ⟨by rfl, ?y2⟩) hHeld ?_
  case y2 => intro w hSw; go_simp
  simp only [Act.put, zp]
  refine wpAnyH_take (i := 3) (v := .agg (xC ⟨hh, l1⟩ u).toArray) rfl (by kernel_rfl) (by kernel_rfl) (by kernel_rfl) (fun _ _ _ => id) (yieldsIf_load_mid (by rfl) 43 _ rfl (b) (o) rfl (xC ⟨hh, l1⟩ u) _ (fun w h => h.2.1) Tryz.underlying43 rfl sizeIE2) hHeld ?_
  simp only [Act.put, zp]
  refine wpAnyH_take (i := 4) (v := .pointer (some ⟨w.heap.size, 3, Option.none⟩)) rfl (by kernel_rfl) (by kernel_rfl) (by kernel_rfl) (fun _ _ _ => id) (Or.inl ⟨by rfl, ?y4⟩) hHeld ?_
  case y4 => intro w hSw; go_simp
  simp only [Act.put, zp]
  refine wpAnyH_take (i := 5) (v := .slice (some ⟨b, o, Option.none⟩) 2 c) rfl (by kernel_rfl) (by kernel_rfl) (by kernel_rfl) (fun _ _ _ => id) (Or.inl ⟨by rfl, ?y5⟩) hHeld ?_
  case y5 => intro w hSw; have q1 := hSw.1; clear hSw c3 hHeld hbk; go_simp
  simp only [Act.put, zp]
  refine wpAnyH_take (i := 6) (v := .pointer (some ⟨b, o + 4, Option.none⟩)) rfl (by kernel_rfl) (by kernel_rfl) (by kernel_rfl) (fun _ _ _ => id) (Or.inl ⟨by rfl, ?y6⟩) hHeld ?_
  case y6 => intro w hSw; go_simp
  simp only [Act.put, zp]
  refine wpAnyH_take (i := 7) (v := .agg (xC ⟨hh', l2⟩ u').toArray) rfl (by kernel_rfl) (by kernel_rfl) (by kernel_rfl) (fun _ _ _ => id) (yieldsIf_load_mid (by rfl) 43 _ rfl (b) (o + 4) rfl (xC ⟨hh', l2⟩ u') _ (fun w h => h.2.2) Tryz.underlying43 rfl sizeIE2) hHeld ?_
  simp only [Act.put, zp]
  refine wpAnyH_take (i := 8) (v := .agg #[.int .i64 hh.k, .int .i64 hh.n, .string hh.s, u, .int .i64 hh'.k, .int .i64 hh'.n, .string hh'.s, u']) rfl (by kernel_rfl) (by kernel_rfl) (by kernel_rfl) (fun _ _ _ => id) (Or.inl ⟨by rfl, ?y8⟩) hHeld ?_
  case y8 => intro w hSw; clear hSw c3 hHeld hbk; simp only [xC]; go_simp
  simp only [Act.put, zp]
  refine wpAnyH_take (i := 9) (v := .iface 128 (.agg #[.int .i64 hh.k, .int .i64 hh.n, .string hh.s, u, .int .i64 hh'.k, .int .i64 hh'.n, .string hh'.s, u'])) rfl (by kernel_rfl) (by kernel_rfl) (by kernel_rfl) (fun _ _ _ => id) (Or.inl ⟨by rfl, ?y9⟩) hHeld ?_
  case y9 => intro w hSw; go_simp
  simp only [Act.put, zp]
  refine wpAnyH_take (i := 10) (v := .iface 128 (.agg #[.int .i64 hh.k, .int .i64 hh.n, .string hh.s, u, .int .i64 hh'.k, .int .i64 hh'.n, .string hh'.s, u'])) rfl (by kernel_rfl) (by kernel_rfl) (by kernel_rfl) (fun _ _ _ => id) (Or.inl ⟨by rfl, ?y10⟩) hHeld ?_
  case y10 => intro w hSw; go_simp
  simp only [Act.put, zp]
  refine wpAnyH_done (by kernel_rfl) ?_ _
  go_wp2
  go_ret
  exact ⟨_, rfl, .inr (.inr (.inr (.inl ⟨hf.out, p, q, p', q', ⟨hh, l1⟩, ⟨hh', l2⟩, u, u', rfl, HU.out.1, HU.out.2, rfl⟩))), hb1.drew⟩
theorem formOf_7 (k n : Int) (s : ByteArray) (l : EF) (w : World) (v : Value) (hv : EV w 0 l v) (hk : k = 7) : Calls Tryz.prog 80 #[.agg #[.int .i64 k, .int .i64 n, .string s, v]] w fun e w' => ∃ fv, e = .returned fv ∧ FormIs w ⟨⟨k, n, s⟩, l⟩ fv ∧ Below w.heap.size w w' := by
  obtain ⟨b, o, a, c, rfl, hao, _, hin⟩ := hv
  subst hk
  by_cases hn : n = 0
  case neg =>
    have hf : Hid (fnum ⟨7, n, s⟩ (elen l) = 0) := show fnum _ _ = 0 by simp [fnum, hn]
    have he := int_ne hn
    clear hao hin
    go_enter Tryz.func80, Tryz.ntmps80
    go_wp2
    go_ret
    exact form_nil hf.out (aB _ _)
  subst hn
  by_cases hs : s.size = 0
  case neg =>
    have hf : Hid (fnum ⟨7, 0, s⟩ (elen l) = 0) := show fnum _ _ = 0 by simp [fnum, hs]
    have he := str_full hs
    clear hs hao hin
    go_enter Tryz.func80, Tryz.ntmps80
    go_wp2
    go_ret
    exact form_nil hf.out (aB _ _)
  have he := str_empty hs
  by_cases hl : elen l = 2
  case neg =>
    have hf : Hid (fnum ⟨7, 0, s⟩ (elen l) = 0) := show fnum _ _ = 0 by simp [fnum, hl]
    have h1 : ((elen l : Int) == 2) = false := int_ne (by omega)
    clear hl hs hao hin
    go_enter Tryz.func80, Tryz.ntmps80
    go_wp2
    go_ret
    exact form_nil hf.out (aB _ _)
  have hf : Hid (fnum ⟨7, 0, s⟩ (elen l) = 4) := show fnum _ _ = 4 by simp [fnum, hl, hs]
  obtain ⟨p, q, hh, l1, p', q', hh', l2, rfl⟩ := len2 hl
  obtain rfl : a = some ⟨b, o, Option.none⟩ := hao.resolve_right (by intro e; cases e)
  obtain ⟨⟨a0, a1, a2, u, a3, hu⟩, hin2⟩ := EIn_node.1 hin
  obtain ⟨⟨d0, d1, d2, u', d3, hu'⟩, _⟩ := EIn_node.1 hin2
  have ra : Hid (w.rangeAt b o (xC ⟨hh, l1⟩ u)) := x_range (x := ⟨hh, l1⟩) a0 a1 a2 a3
  have rb : Hid (w.rangeAt b (o + 4) (xC ⟨hh', l2⟩ u')) := x_range (x := ⟨hh', l2⟩) d0 d1 d2 d3
  have HU := hid (And.intro hu hu')
  clear hl hs hin hin2 hao a0 a1 a2 a3 hu d0 d1 d2 d3 hu'
  go_enter Tryz.func80, Tryz.ntmps80
  go_wp2_with fail
  simp only [elen] at *
  have hb1 : Below w.heap.size w (w.alloc (.cells #[.int .i64 7, .int .i64 0, .string s, .slice (some ⟨b, o, Option.none⟩) 2 c] 43)) := aB _ _
  have hbk := new_cell w #[.int .i64 7, .int .i64 0, .string s, .slice (some ⟨b, o, Option.none⟩) 2 c] 43
  have c3 := hbk 3 _ rfl
  have ra2 := rangeAt_later ra.out hb1
  have rb2 := rangeAt_later rb.out hb1
  refine wp_region_held_drew (S := fun w' => w'.cell? ⟨w.heap.size, 3, Option.none⟩ = some (.slice (some ⟨b, o, Option.none⟩) 2 c) ∧ (w'.rangeAt b o (xC ⟨hh, l1⟩ u) ∧ w'.rangeAt b (o + 4) (xC ⟨hh', l2⟩ u'))) (by kernel_rfl) ⟨c3, ⟨(World.rangeAt_drew _ _ _ _).2 ra2, (World.rangeAt_drew _ _ _ _).2 rb2⟩⟩ (fun hHeld => ?_)
  refine wpAnyH_take (i := 0) (v := .pointer (some ⟨w.heap.size, 3, Option.none⟩)) rfl (by kernel_rfl) (by kernel_rfl) (by kernel_rfl) (fun _ _ _ => id) (Or.inl ⟨by rfl, ?y0⟩) hHeld ?_
  case y0 => intro w hSw; go_simp
  simp only [Act.put, zp]
  refine wpAnyH_take (i := 1) (v := .slice (some ⟨b, o, Option.none⟩) 2 c) rfl (by kernel_rfl) (by kernel_rfl) (by kernel_rfl) (fun _ _ _ => id) (Or.inl ⟨by rfl, ?y1⟩) hHeld ?_
  case y1 => intro w hSw; have q1 := hSw.1; clear hSw c3 hHeld hbk; go_simp
  simp only [Act.put, zp]
  refine wpAnyH_take (i := 2) (v := .pointer (some ⟨b, o, Option.none⟩)) rfl (by kernel_rfl) (by kernel_rfl) (by kernel_rfl) (fun _ _ _ => id) (Or.inl ⟨by rfl, ?y2⟩) hHeld ?_
  case y2 => intro w hSw; go_simp
  simp only [Act.put, zp]
  refine wpAnyH_take (i := 3) (v := .agg (xC ⟨hh, l1⟩ u).toArray) rfl (by kernel_rfl) (by kernel_rfl) (by kernel_rfl) (fun _ _ _ => id) (yieldsIf_load_mid (by rfl) 43 _ rfl (b) (o) rfl (xC ⟨hh, l1⟩ u) _ (fun w h => h.2.1) Tryz.underlying43 rfl sizeIE2) hHeld ?_
  simp only [Act.put, zp]
  refine wpAnyH_take (i := 4) (v := .pointer (some ⟨w.heap.size, 3, Option.none⟩)) rfl (by kernel_rfl) (by kernel_rfl) (by kernel_rfl) (fun _ _ _ => id) (Or.inl ⟨by rfl, ?y4⟩) hHeld ?_
  case y4 => intro w hSw; go_simp
  simp only [Act.put, zp]
  refine wpAnyH_take (i := 5) (v := .slice (some ⟨b, o, Option.none⟩) 2 c) rfl (by kernel_rfl) (by kernel_rfl) (by kernel_rfl) (fun _ _ _ => id) (Or.inl ⟨by rfl, ?y5⟩) hHeld ?_
  case y5 => intro w hSw; have q1 := hSw.1; clear hSw c3 hHeld hbk; go_simp
  simp only [Act.put, zp]
  refine wpAnyH_take (i := 6) (v := .pointer (some ⟨b, o + 4, Option.none⟩)) rfl (by kernel_rfl) (by kernel_rfl) (by kernel_rfl) (fun _ _ _ => id) (Or.inl ⟨by rfl, ?y6⟩) hHeld ?_
  case y6 => intro w hSw; go_simp
  simp only [Act.put, zp]
  refine wpAnyH_take (i := 7) (v := .agg (xC ⟨hh', l2⟩ u').toArray) rfl (by kernel_rfl) (by kernel_rfl) (by kernel_rfl) (fun _ _ _ => id) (yieldsIf_load_mid (by rfl) 43 _ rfl (b) (o + 4) rfl (xC ⟨hh', l2⟩ u') _ (fun w h => h.2.2) Tryz.underlying43 rfl sizeIE2) hHeld ?_
  simp only [Act.put, zp]
  refine wpAnyH_take (i := 8) (v := .agg #[.int .i64 hh.k, .int .i64 hh.n, .string hh.s, u, .int .i64 hh'.k, .int .i64 hh'.n, .string hh'.s, u']) rfl (by kernel_rfl) (by kernel_rfl) (by kernel_rfl) (fun _ _ _ => id) (Or.inl ⟨by rfl, ?y8⟩) hHeld ?_
  case y8 => intro w hSw; clear hSw c3 hHeld hbk; simp only [xC]; go_simp
  simp only [Act.put, zp]
  refine wpAnyH_take (i := 9) (v := .iface 128 (.agg #[.int .i64 hh.k, .int .i64 hh.n, .string hh.s, u, .int .i64 hh'.k, .int .i64 hh'.n, .string hh'.s, u'])) rfl (by kernel_rfl) (by kernel_rfl) (by kernel_rfl) (fun _ _ _ => id) (Or.inl ⟨by rfl, ?y9⟩) hHeld ?_
  case y9 => intro w hSw; go_simp
  simp only [Act.put, zp]
  refine wpAnyH_take (i := 10) (v := .iface 128 (.agg #[.int .i64 hh.k, .int .i64 hh.n, .string hh.s, u, .int .i64 hh'.k, .int .i64 hh'.n, .string hh'.s, u'])) rfl (by kernel_rfl) (by kernel_rfl) (by kernel_rfl) (fun _ _ _ => id) (Or.inl ⟨by rfl, ?y10⟩) hHeld ?_
  case y10 => intro w hSw; go_simp
  simp only [Act.put, zp]
  refine wpAnyH_done (by kernel_rfl) ?_ _
  go_wp2
  go_ret
  exact ⟨_, rfl, .inr (.inr (.inr (.inl ⟨hf.out, p, q, p', q', ⟨hh, l1⟩, ⟨hh', l2⟩, u, u', rfl, HU.out.1, HU.out.2, rfl⟩))), hb1.drew⟩
theorem formOf_8 (k n : Int) (s : ByteArray) (l : EF) (w : World) (v : Value) (hv : EV w 0 l v) (hk : k = 8) : Calls Tryz.prog 80 #[.agg #[.int .i64 k, .int .i64 n, .string s, v]] w fun e w' => ∃ fv, e = .returned fv ∧ FormIs w ⟨⟨k, n, s⟩, l⟩ fv ∧ Below w.heap.size w w' := by
  obtain ⟨b, o, a, c, rfl, hao, _, hin⟩ := hv
  subst hk
  by_cases hn : n = 0
  case neg =>
    have hf : Hid (fnum ⟨8, n, s⟩ (elen l) = 0) := show fnum _ _ = 0 by simp [fnum, hn]
    have he := int_ne hn
    clear hao hin
    go_enter Tryz.func80, Tryz.ntmps80
    go_wp2
    go_ret
    exact form_nil hf.out (aB _ _)
  subst hn
  by_cases hs : s.size = 0
  case neg =>
    have hf : Hid (fnum ⟨8, 0, s⟩ (elen l) = 0) := show fnum _ _ = 0 by simp [fnum, hs]
    have he := str_full hs
    clear hs hao hin
    go_enter Tryz.func80, Tryz.ntmps80
    go_wp2
    go_ret
    exact form_nil hf.out (aB _ _)
  have he := str_empty hs
  by_cases hl : elen l = 2
  case neg =>
    have hf : Hid (fnum ⟨8, 0, s⟩ (elen l) = 0) := show fnum _ _ = 0 by simp [fnum, hl]
    have h1 : ((elen l : Int) == 2) = false := int_ne (by omega)
    clear hl hs hao hin
    go_enter Tryz.func80, Tryz.ntmps80
    go_wp2
    go_ret
    exact form_nil hf.out (aB _ _)
  have hf : Hid (fnum ⟨8, 0, s⟩ (elen l) = 4) := show fnum _ _ = 4 by simp [fnum, hl, hs]
  obtain ⟨p, q, hh, l1, p', q', hh', l2, rfl⟩ := len2 hl
  obtain rfl : a = some ⟨b, o, Option.none⟩ := hao.resolve_right (by intro e; cases e)
  obtain ⟨⟨a0, a1, a2, u, a3, hu⟩, hin2⟩ := EIn_node.1 hin
  obtain ⟨⟨d0, d1, d2, u', d3, hu'⟩, _⟩ := EIn_node.1 hin2
  have ra : Hid (w.rangeAt b o (xC ⟨hh, l1⟩ u)) := x_range (x := ⟨hh, l1⟩) a0 a1 a2 a3
  have rb : Hid (w.rangeAt b (o + 4) (xC ⟨hh', l2⟩ u')) := x_range (x := ⟨hh', l2⟩) d0 d1 d2 d3
  have HU := hid (And.intro hu hu')
  clear hl hs hin hin2 hao a0 a1 a2 a3 hu d0 d1 d2 d3 hu'
  go_enter Tryz.func80, Tryz.ntmps80
  go_wp2_with fail
  simp only [elen] at *
  have hb1 : Below w.heap.size w (w.alloc (.cells #[.int .i64 8, .int .i64 0, .string s, .slice (some ⟨b, o, Option.none⟩) 2 c] 43)) := aB _ _
  have hbk := new_cell w #[.int .i64 8, .int .i64 0, .string s, .slice (some ⟨b, o, Option.none⟩) 2 c] 43
  have c3 := hbk 3 _ rfl
  have ra2 := rangeAt_later ra.out hb1
  have rb2 := rangeAt_later rb.out hb1
  refine wp_region_held_drew (S := fun w' => w'.cell? ⟨w.heap.size, 3, Option.none⟩ = some (.slice (some ⟨b, o, Option.none⟩) 2 c) ∧ (w'.rangeAt b o (xC ⟨hh, l1⟩ u) ∧ w'.rangeAt b (o + 4) (xC ⟨hh', l2⟩ u'))) (by kernel_rfl) ⟨c3, ⟨(World.rangeAt_drew _ _ _ _).2 ra2, (World.rangeAt_drew _ _ _ _).2 rb2⟩⟩ (fun hHeld => ?_)
  refine wpAnyH_take (i := 0) (v := .pointer (some ⟨w.heap.size, 3, Option.none⟩)) rfl (by kernel_rfl) (by kernel_rfl) (by kernel_rfl) (fun _ _ _ => id) (Or.inl ⟨by rfl, ?y0⟩) hHeld ?_
  case y0 => intro w hSw; go_simp
  simp only [Act.put, zp]
  refine wpAnyH_take (i := 1) (v := .slice (some ⟨b, o, Option.none⟩) 2 c) rfl (by kernel_rfl) (by kernel_rfl) (by kernel_rfl) (fun _ _ _ => id) (Or.inl ⟨by rfl, ?y1⟩) hHeld ?_
  case y1 => intro w hSw; have q1 := hSw.1; clear hSw c3 hHeld hbk; go_simp
  simp only [Act.put, zp]
  refine wpAnyH_take (i := 2) (v := .pointer (some ⟨b, o, Option.none⟩)) rfl (by kernel_rfl) (by kernel_rfl) (by kernel_rfl) (fun _ _ _ => id) (Or.inl ⟨by rfl, ?y2⟩) hHeld ?_
  case y2 => intro w hSw; go_simp
  simp only [Act.put, zp]
  refine wpAnyH_take (i := 3) (v := .agg (xC ⟨hh, l1⟩ u).toArray) rfl (by kernel_rfl) (by kernel_rfl) (by kernel_rfl) (fun _ _ _ => id) (yieldsIf_load_mid (by rfl) 43 _ rfl (b) (o) rfl (xC ⟨hh, l1⟩ u) _ (fun w h => h.2.1) Tryz.underlying43 rfl sizeIE2) hHeld ?_
  simp only [Act.put, zp]
  refine wpAnyH_take (i := 4) (v := .pointer (some ⟨w.heap.size, 3, Option.none⟩)) rfl (by kernel_rfl) (by kernel_rfl) (by kernel_rfl) (fun _ _ _ => id) (Or.inl ⟨by rfl, ?y4⟩) hHeld ?_
  case y4 => intro w hSw; go_simp
  simp only [Act.put, zp]
  refine wpAnyH_take (i := 5) (v := .slice (some ⟨b, o, Option.none⟩) 2 c) rfl (by kernel_rfl) (by kernel_rfl) (by kernel_rfl) (fun _ _ _ => id) (Or.inl ⟨by rfl, ?y5⟩) hHeld ?_
  case y5 => intro w hSw; have q1 := hSw.1; clear hSw c3 hHeld hbk; go_simp
  simp only [Act.put, zp]
  refine wpAnyH_take (i := 6) (v := .pointer (some ⟨b, o + 4, Option.none⟩)) rfl (by kernel_rfl) (by kernel_rfl) (by kernel_rfl) (fun _ _ _ => id) (Or.inl ⟨by rfl, ?y6⟩) hHeld ?_
  case y6 => intro w hSw; go_simp
  simp only [Act.put, zp]
  refine wpAnyH_take (i := 7) (v := .agg (xC ⟨hh', l2⟩ u').toArray) rfl (by kernel_rfl) (by kernel_rfl) (by kernel_rfl) (fun _ _ _ => id) (yieldsIf_load_mid (by rfl) 43 _ rfl (b) (o + 4) rfl (xC ⟨hh', l2⟩ u') _ (fun w h => h.2.2) Tryz.underlying43 rfl sizeIE2) hHeld ?_
  simp only [Act.put, zp]
  refine wpAnyH_take (i := 8) (v := .agg #[.int .i64 hh.k, .int .i64 hh.n, .string hh.s, u, .int .i64 hh'.k, .int .i64 hh'.n, .string hh'.s, u']) rfl (by kernel_rfl) (by kernel_rfl) (by kernel_rfl) (fun _ _ _ => id) (Or.inl ⟨by rfl, ?y8⟩) hHeld ?_
  case y8 => intro w hSw; clear hSw c3 hHeld hbk; simp only [xC]; go_simp
  simp only [Act.put, zp]
  refine wpAnyH_take (i := 9) (v := .iface 128 (.agg #[.int .i64 hh.k, .int .i64 hh.n, .string hh.s, u, .int .i64 hh'.k, .int .i64 hh'.n, .string hh'.s, u'])) rfl (by kernel_rfl) (by kernel_rfl) (by kernel_rfl) (fun _ _ _ => id) (Or.inl ⟨by rfl, ?y9⟩) hHeld ?_
  case y9 => intro w hSw; go_simp
  simp only [Act.put, zp]
  refine wpAnyH_take (i := 10) (v := .iface 128 (.agg #[.int .i64 hh.k, .int .i64 hh.n, .string hh.s, u, .int .i64 hh'.k, .int .i64 hh'.n, .string hh'.s, u'])) rfl (by kernel_rfl) (by kernel_rfl) (by kernel_rfl) (fun _ _ _ => id) (Or.inl ⟨by rfl, ?y10⟩) hHeld ?_
  case y10 => intro w hSw; go_simp
  simp only [Act.put, zp]
  refine wpAnyH_done (by kernel_rfl) ?_ _
  go_wp2
  go_ret
  exact ⟨_, rfl, .inr (.inr (.inr (.inl ⟨hf.out, p, q, p', q', ⟨hh, l1⟩, ⟨hh', l2⟩, u, u', rfl, HU.out.1, HU.out.2, rfl⟩))), hb1.drew⟩
theorem formOf_0 (k n : Int) (s : ByteArray) (l : EF) (w : World) (v : Value) (hv : EV w 0 l v) (hk : ¬ (1 ≤ k ∧ k ≤ 8)) : Calls Tryz.prog 80 #[.agg #[.int .i64 k, .int .i64 n, .string s, v]] w fun e w' => ∃ fv, e = .returned fv ∧ FormIs w ⟨⟨k, n, s⟩, l⟩ fv ∧ Below w.heap.size w w' := by
  obtain ⟨b, o, a, c, rfl, hao, _, hin⟩ := hv
  have hf : Hid (fnum ⟨k, n, s⟩ (elen l) = 0) := show fnum _ _ = 0 by
    simp only [fnum]
    rw [if_neg (by omega), if_neg (by omega), if_neg (by omega), if_neg (by omega)]
  have e1 : (k == 1) = false := int_ne (by omega)
  have e2 : (k == 2) = false := int_ne (by omega)
  have e3 : (k == 3) = false := int_ne (by omega)
  have e4 : (k == 4) = false := int_ne (by omega)
  have e5 : (k == 5) = false := int_ne (by omega)
  have e6 : (k == 6) = false := int_ne (by omega)
  have e7 : (k == 7) = false := int_ne (by omega)
  have e8 : (k == 8) = false := int_ne (by omega)
  clear hao hin hk
  go_enter Tryz.func80, Tryz.ntmps80
  go_wp2
  go_ret
  exact form_nil hf.out (aB _ _)
theorem formOf_is (x : X) (w : World) (v : Value) (hv : EV w 0 x.l v) : Calls Tryz.prog 80 #[.agg (xC x v).toArray] w fun e w' => ∃ fv, e = .returned fv ∧ FormIs w x fv ∧ Below w.heap.size w w' := by
  obtain ⟨⟨k, n, s⟩, l⟩ := x
  by_cases hk : 1 ≤ k ∧ k ≤ 8
  · obtain h | h | h | h | h | h | h | h : k = 1 ∨ k = 2 ∨ k = 3 ∨ k = 4 ∨ k = 5 ∨ k = 6 ∨ k = 7 ∨ k = 8 := by omega
    · exact formOf_1 k n s l w v hv h
    · exact formOf_2 k n s l w v hv h
    · exact formOf_3 k n s l w v hv h
    · exact formOf_4 k n s l w v hv h
    · exact formOf_5 k n s l w v hv h
    · exact formOf_6 k n s l w v hv h
    · exact formOf_7 k n s l w v hv h
    · exact formOf_8 k n s l w v hv h
  · exact formOf_0 k n s l w v hv hk
def here (h : EH) (n : Nat) : Bool :=
  match fnum h n with
  | 1 => decide (0 ≤ h.n) && decide (h.n ≤ 999999)
  | 2 => nameOk h.s.data.toList
  | 3 => nameOk h.s.data.toList
  | 4 => true
  | _ => false
def toldF : Nat → EF → Bool
  | _, .nil => true
  | d, .node _ _ h l r => decide (1 ≤ d) && (here h (elen l) && (toldF (d - 1) l && toldF d r))
def toldX (d : Nat) (x : X) : Bool := decide (1 ≤ d) && (here x.h (elen x.l) && toldF (d - 1) x.l)
theorem toldX_zero (x : X) : toldX 0 x = false := rfl
theorem toldX_num {d : Nat} {x : X} (h : fnum x.h (elen x.l) = 1) : toldX (d + 1) x = (decide (0 ≤ x.h.n) && decide (x.h.n ≤ 999999)) := by
  have hl : elen x.l = 0 := by
    unfold fnum at h
    split at h
    · rename_i e; exact e.2.2
    · split at h
      · cases h
      · split at h
        · cases h
        · split at h <;> cases h
  have hn : x.l = .nil := by
    cases hx : x.l with
    | nil => rfl
    | node _ _ _ _ _ => rw [hx] at hl; simp [elen] at hl
  simp only [toldX, here, h]
  rw [hn]; simp [toldF]
theorem toldX_var {d : Nat} {x : X} (h : fnum x.h (elen x.l) = 2) : toldX (d + 1) x = nameOk x.h.s.data.toList := by
  have hl : elen x.l = 0 := by
    unfold fnum at h
    split at h
    · cases h
    · split at h
      · rename_i e; exact e.2.2
      · split at h
        · cases h
        · split at h <;> cases h
  have hn : x.l = .nil := by
    cases hx : x.l with
    | nil => rfl
    | node _ _ _ _ _ => rw [hx] at hl; simp [elen] at hl
  simp only [toldX, here, h]
  rw [hn]; simp [toldF]
theorem toldX_at {d p q : Nat} {x y : X} (h : fnum x.h (elen x.l) = 3) (e : x.l = .node p q y.h y.l .nil) : toldX (d + 1) x = (nameOk x.h.s.data.toList && toldX d y) := by
  have hh : here x.h (elen x.l) = nameOk x.h.s.data.toList := by simp [here, h]
  unfold toldX
  rw [hh, e]; simp [toldF]
theorem toldX_pair {d p q p' q' : Nat} {x y z : X} (h : fnum x.h (elen x.l) = 4) (e : x.l = .node p q y.h y.l (.node p' q' z.h z.l .nil)) : toldX (d + 1) x = (toldX d y && toldX d z) := by
  have hh : here x.h (elen x.l) = true := by simp [here, h]
  unfold toldX
  rw [hh, e]; simp [toldF, Bool.and_assoc]
theorem toldX_none {d : Nat} {x : X} (h : fnum x.h (elen x.l) = 0) : toldX (d + 1) x = false := by simp [toldX, here, h]
theorem as_nn (v : Value) (w : World) : (Instr.typeAssert (.iface 121 v) 118 121 true).run Tryz.prog w = .ok (.tuple #[v, .bool true]) w := by kernel_rfl
theorem as_vn (v : Value) (w : World) : (Instr.typeAssert (.iface 123 v) 118 121 true).run Tryz.prog w = .ok (.tuple #[.agg #[.int .i64 0], .bool false]) w := by kernel_rfl
theorem as_vv (v : Value) (w : World) : (Instr.typeAssert (.iface 123 v) 118 123 true).run Tryz.prog w = .ok (.tuple #[v, .bool true]) w := by kernel_rfl
theorem as_an (v : Value) (w : World) : (Instr.typeAssert (.iface 125 v) 118 121 true).run Tryz.prog w = .ok (.tuple #[.agg #[.int .i64 0], .bool false]) w := by kernel_rfl
theorem as_av (v : Value) (w : World) : (Instr.typeAssert (.iface 125 v) 118 123 true).run Tryz.prog w = .ok (.tuple #[.agg #[.string ⟨#[]⟩], .bool false]) w := by kernel_rfl
theorem as_aa (v : Value) (w : World) : (Instr.typeAssert (.iface 125 v) 118 125 true).run Tryz.prog w = .ok (.tuple #[v, .bool true]) w := by kernel_rfl
theorem as_pn (v : Value) (w : World) : (Instr.typeAssert (.iface 128 v) 118 121 true).run Tryz.prog w = .ok (.tuple #[.agg #[.int .i64 0], .bool false]) w := by kernel_rfl
theorem as_pv (v : Value) (w : World) : (Instr.typeAssert (.iface 128 v) 118 123 true).run Tryz.prog w = .ok (.tuple #[.agg #[.string ⟨#[]⟩], .bool false]) w := by kernel_rfl
theorem as_pa (v : Value) (w : World) : (Instr.typeAssert (.iface 128 v) 118 125 true).run Tryz.prog w = .ok (.tuple #[.agg #[.string ⟨#[]⟩, .int .i64 0, .int .i64 0, .string ⟨#[]⟩, .slice Option.none 0 0], .bool false]) w := by kernel_rfl
theorem as_pp (v : Value) (w : World) : (Instr.typeAssert (.iface 128 v) 118 128 true).run Tryz.prog w = .ok (.tuple #[v, .bool true]) w := by kernel_rfl
theorem as_0n (w : World) : (Instr.typeAssert .nilIface 118 121 true).run Tryz.prog w = .ok (.tuple #[.agg #[.int .i64 0], .bool false]) w := by kernel_rfl
theorem as_0v (w : World) : (Instr.typeAssert .nilIface 118 123 true).run Tryz.prog w = .ok (.tuple #[.agg #[.string ⟨#[]⟩], .bool false]) w := by kernel_rfl
theorem as_0a (w : World) : (Instr.typeAssert .nilIface 118 125 true).run Tryz.prog w = .ok (.tuple #[.agg #[.string ⟨#[]⟩, .int .i64 0, .int .i64 0, .string ⟨#[]⟩, .slice Option.none 0 0], .bool false]) w := by kernel_rfl
theorem as_0p (w : World) : (Instr.typeAssert .nilIface 118 128 true).run Tryz.prog w = .ok (.tuple #[.agg #[.int .i64 0, .int .i64 0, .string ⟨#[]⟩, .slice Option.none 0 0, .int .i64 0, .int .i64 0, .string ⟨#[]⟩, .slice Option.none 0 0], .bool false]) w := by kernel_rfl
theorem expAsTold_zero (x : X) (w : World) (v : Value) : Calls Tryz.prog 77 #[.agg #[.int .i64 x.h.k, .int .i64 x.h.n, .string x.h.s, v], .int .i64 0] w fun e w' => e = .returned (.bool false) ∧ Below w.heap.size w w' := by
  go_enter Tryz.func77, Tryz.ntmps77
  go_wp2
  go_ret
  exact ⟨rfl, aB _ _⟩
theorem expAsTold_step (d : Nat) (hd : d ≤ 100) (ih : ∀ (x : X) (w : World) (v : Value), EV w 0 x.l v → Calls Tryz.prog 77 #[.agg #[.int .i64 x.h.k, .int .i64 x.h.n, .string x.h.s, v], .int .i64 (d : Int)] w fun e w' => e = .returned (.bool (toldX d x)) ∧ Below w.heap.size w w')
    (x : X) (w : World) (v : Value) (hv : EV w 0 x.l v) : Calls Tryz.prog 77 #[.agg #[.int .i64 x.h.k, .int .i64 x.h.n, .string x.h.s, v], .int .i64 ((d : Int) + 1)] w fun e w' => e = .returned (.bool (toldX (d + 1) x)) ∧ Below w.heap.size w w' := by
  have h0 : (((d : Int) + 1) == 0) = false := int_ne (by omega)
  have hdI : (d : Int) ≤ 100 := by omega
  have Hih := hid ih
  have Hv := hid hv
  have hb0 : Below w.heap.size w (w.alloc (.cells #[.int .i64 x.h.k, .int .i64 x.h.n, .string x.h.s, v] 43)) := aB _ _
  have Hq : Hid (∀ w, EV w 0 x.l v → Calls Tryz.prog 80 #[.agg #[.int .i64 x.h.k, .int .i64 x.h.n, .string x.h.s, v]] w fun e w' => ∃ fv, e = .returned fv ∧ FormIs w x fv ∧ Below w.heap.size w w') := fun w hv => formOf_is x w v hv
  clear ih hv
  go_enter Tryz.func77, Tryz.ntmps77
  go_wp2_with fail
  refine (Hq.out _ (Hv.out.later hb0)).mono ?_
  rintro e w1 ⟨fv, rfl, hform, hb1⟩
  have B1 := hb0.trans (hb1.mono hb0.size)
  have Hb1 := hid hb1
  clear hb0 hb1 Hq
  rcases hform with ⟨hf, rfl⟩ | ⟨hf, rfl⟩ | ⟨hf, p, q, y, u, hl, hu, rfl⟩ | ⟨hf, p, q, p', q', y, z, u, u', hl, hu, hu', rfl⟩ | ⟨hf, rfl⟩
  · have ht := hid (toldX_num (d := d) hf)
    have q1 := as_nn
    clear hf
    by_cases h1 : 0 ≤ x.h.n
    · by_cases h2 : x.h.n ≤ 999999
      · go_wp2
        go_ret
        exact retB (by rw [ht.out, decide_eq_true h1, decide_eq_true h2]; rfl) (B1.alloc B1.size _)
      · have h2' : ¬ x.h.n ≤ 999999 := h2
        go_wp2
        go_ret
        exact retB (by rw [ht.out, decide_eq_true h1]; simp) (B1.alloc B1.size _)
    · have h1' : ¬ 0 ≤ x.h.n := h1
      go_wp2
      go_ret
      exact retB (by rw [ht.out, decide_eq_false (by omega)]; rfl) (B1.alloc B1.size _)
  · have ht := hid (toldX_var (d := d) hf)
    have q1 := as_vn
    have q2 := as_vv
    obtain ⟨nb, hnb⟩ : ∃ b, nameOk x.h.s.data.toList = b := ⟨_, rfl⟩
    have Hnb := hid hnb
    clear hf hnb
    go_wp2_with fail
    refine (impl_NameOk x.h.s nb Hnb.out _).mono ?_
    rintro e w2 ⟨rfl, hb2⟩
    have B2 := B1.trans ((below_alloc hb2).mono B1.size)
    clear hb2
    go_wp2
    go_ret
    exact retB (by rw [ht.out, Hnb.out]) B2
  · have ht := hid (toldX_at (d := d) hf hl)
    have q1 := as_an
    have q2 := as_av
    have q3 := as_aa
    obtain ⟨nb, hnb⟩ : ∃ b, nameOk x.h.s.data.toList = b := ⟨_, rfl⟩
    have Hnb := hid hnb
    have HU := hid hu
    obtain ⟨ua, uc, rfl⟩ := hu.shape
    obtain ⟨tv, htv⟩ : ∃ t, toldX d y = t := ⟨_, rfl⟩
    have Htv := hid htv
    clear hf hnb hu hl htv
    go_wp2_with fail
    refine (impl_NameOk x.h.s nb Hnb.out _).mono ?_
    rintro e w2 ⟨rfl, hb2⟩
    have B2 := B1.trans ((below_alloc hb2).mono B1.size)
    cases nb with
    | false =>
      clear hb2
      go_wp2
      go_ret
      exact retB (by rw [ht.out, Hnb.out]; rfl) B2
    | true =>
      have c1 := box_cell (i := 1) hb2 rfl
      have c2 := box_cell (i := 2) hb2 rfl
      have c3 := box_cell (i := 3) hb2 rfl
      have c4 := box_cell (i := 4) hb2 rfl
      have V2 := hid (HU.out.later (Hb1.out.trans ((below_alloc hb2).mono Hb1.out.size)))
      clear hb2
      go_wp2_with fail
      refine (Hih.out y _ _ V2.out).mono ?_
      rintro e w3 ⟨rfl, hb3⟩
      rw [Htv.out]
      have B3 := B2.trans (hb3.mono B2.size)
      clear hb3 c1 c2 c3 c4
      go_wp2
      go_ret
      exact retB (by rw [ht.out, Hnb.out, Htv.out]; rfl) B3
  · have ht := hid (toldX_pair (d := d) hf hl)
    have q1 := as_pn
    have q2 := as_pv
    have q3 := as_pa
    have q4 := as_pp
    have HU := hid (And.intro hu hu')
    obtain ⟨ua, uc, rfl⟩ := hu.shape
    obtain ⟨ua', uc', rfl⟩ := hu'.shape
    obtain ⟨tv, htv⟩ : ∃ t, toldX d y = t := ⟨_, rfl⟩
    obtain ⟨tz, htz⟩ : ∃ t, toldX d z = t := ⟨_, rfl⟩
    have Htv := hid (And.intro htv htz)
    clear hf hu hu' hl htv htz
    go_wp2_with fail
    have V1 := HU.out.1.later (Hb1.out.alloc Hb1.out.size (.cells #[.int .i64 y.h.k, .int .i64 y.h.n, .string y.h.s, .slice ua (elen y.l) uc, .int .i64 z.h.k, .int .i64 z.h.n, .string z.h.s, .slice ua' (elen z.l) uc'] 128))
    refine (Hih.out y _ _ V1).mono ?_
    rintro e w2 ⟨rfl, hb2⟩
    rw [Htv.out.1]
    have B2 := B1.trans ((below_alloc hb2).mono B1.size)
    cases tv with
    | false =>
      clear hb2 V1
      go_wp2
      go_ret
      exact retB (by rw [ht.out, Htv.out.1]; rfl) B2
    | true =>
      have c1 := box_cell (i := 4) hb2 rfl
      have c2 := box_cell (i := 5) hb2 rfl
      have c3 := box_cell (i := 6) hb2 rfl
      have c4 := box_cell (i := 7) hb2 rfl
      have V2 := hid (HU.out.2.later (Hb1.out.trans ((below_alloc hb2).mono Hb1.out.size)))
      clear hb2 V1
      go_wp2_with fail
      refine (Hih.out z _ _ V2.out).mono ?_
      rintro e w3 ⟨rfl, hb3⟩
      rw [Htv.out.2]
      have B3 := B2.trans (hb3.mono B2.size)
      clear hb3 c1 c2 c3 c4
      go_wp2
      go_ret
      exact retB (by rw [ht.out, Htv.out.1, Htv.out.2]; rfl) B3
  · have ht := hid (toldX_none (d := d) hf)
    have q1 := as_0n
    have q2 := as_0v
    have q3 := as_0a
    have q4 := as_0p
    clear hf
    go_wp2
    go_ret
    exact retB ht.out B1
theorem expAsTold_all : ∀ (d : Nat), d ≤ 100 → ∀ (x : X) (w : World) (v : Value), EV w 0 x.l v → Calls Tryz.prog 77 #[.agg #[.int .i64 x.h.k, .int .i64 x.h.n, .string x.h.s, v], .int .i64 (d : Int)] w fun e w' => e = .returned (.bool (toldX d x)) ∧ Below w.heap.size w w'
  | 0, _, x, w, v, _ => expAsTold_zero x w v
  | d + 1, h, x, w, v, hv => expAsTold_step d (by omega) (fun x w v hv => expAsTold_all d (by omega) x w v hv) x w v hv
end Go.Proofs.YtpinockfakndlaaGreat
