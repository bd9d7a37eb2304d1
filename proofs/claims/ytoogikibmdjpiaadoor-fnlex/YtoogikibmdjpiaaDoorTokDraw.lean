/-
  What the law on signs draws: a text, a name, signs that are read of a text.
-/
import Derived.Test.YtoogikibmdjpiaaDoorCurText
import Derived.Test.YtoogikibmdjpiaaDoorTokSpecLex
import Derived.Deep.RegionWith
namespace Go.Proofs.YtoogikibmdjpiaaDoor
open Go.RowKit Go.Lib
set_option linter.unusedSimpArgs false

/-- A draw is under way: its bytes and its cursor stand, and nothing below B has turned. -/
structure Dr (B : Nat) (a : Option Addr) (len cap b : Nat) (w0 w : World) : Prop where
  len48 : len ≤ 281474976710656
  hB : B ≤ b
  code : CodeIs B w a len
  cur : Cur a len cap b w
  bel : Below B w0 w
theorem Dr.touch {B len cap b : Nat} {a : Option Addr} {w0 w w' : World} (h : Dr B a len cap b w0 w) (hc : Cur a len cap b w') (ht : Touch b w w') : Dr B a len cap b w0 w' :=
  ⟨h.len48, h.hB, h.code.later (ht.below h.hB), hc, h.bel.trans (ht.below h.hB)⟩
theorem Dr.sz {B len cap b : Nat} {a : Option Addr} {w0 w : World} (h : Dr B a len cap b w0 w) : B ≤ w.heap.size := by have := h.cur.lt; have := h.hB; omega
theorem Dr.alloc {B len cap b : Nat} {a : Option Addr} {w0 w : World} (h : Dr B a len cap b w0 w) (o : Obj) : Dr B a len cap b w0 (w.alloc o) :=
  ⟨h.len48, h.hB, h.code.later ((Below.refl _ w).alloc h.sz o), h.cur.later (Below.heap_alloc _ _ _ h.cur.lt), h.bel.alloc h.sz o⟩
theorem drawNew (a : Option Addr) (len cap : Nat) (w : World) (hlen : len ≤ 281474976710656) (hC : CodeIs w.heap.size w a len) :
    Calls Tryd.prog 22 #[.slice a len cap] w fun e w' => e = .returned (.pointer (some ⟨w.heap.size, 0, Option.none⟩)) ∧ Dr w.heap.size a len cap w.heap.size w w' :=
  (l1New w.heap.size a len cap w hlen hC).mono fun _ _ ⟨e, hc, hb⟩ => ⟨e, hlen, Nat.le_refl _, hC.later hb, hc, hb⟩
theorem drawBelow {B len cap b : Nat} {a : Option Addr} {w0 w : World} (D : Dr B a len cap b w0 w) (n : Int) (hn : 0 < n) :
    Calls Tryd.prog 24 #[.pointer (some ⟨b, 0, Option.none⟩), .int .i64 n] w fun e w' => ∃ x : Nat, e = .returned (.int .i64 (x : Int)) ∧ (x : Int) < n ∧ Dr B a len cap b w0 w' :=
  (l1Below B a len cap b n w D.len48 D.hB D.code D.cur hn).mono fun _ _ ⟨x, e, x0, x1, hc, ht⟩ => by
    obtain ⟨y, rfl⟩ := Int.eq_ofNat_of_zero_le x0
    exact ⟨y, e, x1, D.touch hc ht⟩
theorem drawOnce {B len cap b : Nat} {a : Option Addr} {w0 w : World} (D : Dr B a len cap b w0 w) (n : Int) (hn : 0 < n) :
    Calls Tryd.prog 27 #[.pointer (some ⟨b, 0, Option.none⟩), .int .i64 n] w fun e w' => ∃ x : Bool, e = .returned (.bool x) ∧ Dr B a len cap b w0 w' :=
  (l1Once B a len cap b n w D.len48 D.hB D.code D.cur hn).mono fun _ _ ⟨x, e, hc, ht⟩ => ⟨x, e, D.touch hc ht⟩
def strOk (M : Nat) : Value → Bool
  | .string z => decide (z.size ≤ M)
  | _ => false
theorem strOk_is {M : Nat} {v : Value} (h : strOk M v = true) : ∃ z : ByteArray, v = .string z ∧ z.size ≤ M := by
  cases v with
  | string z => exact ⟨z, rfl, by simpa [strOk] using h⟩
  | _ => cases h
theorem drawStrAt {B len cap b : Nat} {a : Option Addr} {w0 w1 : World} (D1 : Dr B a len cap b w0 w1) (cs : Array Value) (n M c N : Nat) (hA : w1.heap[N]? = some (.cells cs 9 (0, 0))) (hNb : N ≠ b) (hn : cs.size = n) (hn0 : 0 < n) (hn1 : n ≤ 1000) (hcs : cs.toList.all (strOk M) = true) :
    Calls Tryd.prog 25 #[.pointer (some ⟨b, 0, Option.none⟩), .slice (some ⟨N, 0, Option.none⟩) n c] w1 fun e w' => ∃ x : ByteArray, e = .returned (.string x) ∧ x.size ≤ M ∧ Dr B a len cap b w0 w' := by
  refine (l1Str B a len cap b N n c (fun x => x.size ≤ M) _ D1.len48 D1.hB D1.code D1.cur hn0 (by omega) hNb ?_).mono ?_
  · intro j hj
    have hj' : j < cs.size := by omega
    obtain ⟨z, hz, hzM⟩ := strOk_is (List.all_eq_true.1 hcs cs[j] (Array.getElem_mem_toList hj'))
    refine ⟨z, ?_, hzM⟩
    simp only [World.cell?, hA]
    rw [Array.getElem?_eq_getElem hj', hz]
    rfl
  · rintro e w' ⟨x, rfl, hx, hc, ht⟩
    exact ⟨x, rfl, hx, D1.touch hc ht⟩
theorem new_blk (w : World) (cs : Array Value) (t : TypeId) (N : Nat) (hN : w.heap.size = N) : (w.alloc (.cells cs t)).heap[N]? = some (.cells cs t (0, 0)) := by
  subst hN
  show (w.heap.push (Obj.cells cs t (0, 0)))[w.heap.size]? = _
  simp
theorem drawStr {B len cap b : Nat} {a : Option Addr} {w0 w : World} (D : Dr B a len cap b w0 w) (cs : Array Value) (n M c N : Nat) (hN : w.heap.size = N) (hn : cs.size = n) (hn0 : 0 < n) (hn1 : n ≤ 1000) (hcs : cs.toList.all (strOk M) = true) :
    Calls Tryd.prog 25 #[.pointer (some ⟨b, 0, Option.none⟩), .slice (some ⟨N, 0, Option.none⟩) n c] (w.alloc (.cells cs 9)) fun e w' => ∃ x : ByteArray, e = .returned (.string x) ∧ x.size ≤ M ∧ Dr B a len cap b w0 w' :=
  drawStrAt (D.alloc _) cs n M c N (new_blk w cs _ N hN) (by have := D.cur.lt; omega) hn hn0 hn1 hcs
theorem Dr.drew {B len cap b : Nat} {a : Option Addr} {w0 w : World} (h : Dr B a len cap b w0 w) : Dr B a len cap b w0 w.drew :=
  ⟨h.len48, h.hB, h.code, h.cur, h.bel.drew⟩
theorem drawStrDrew {B len cap b : Nat} {a : Option Addr} {w0 w : World} (D : Dr B a len cap b w0 w) (cs : Array Value) (n M c N : Nat) (hN : w.heap.size = N) (hn : cs.size = n) (hn0 : 0 < n) (hn1 : n ≤ 1000) (hcs : cs.toList.all (strOk M) = true) :
    Calls Tryd.prog 25 #[.pointer (some ⟨b, 0, Option.none⟩), .slice (some ⟨N, 0, Option.none⟩) n c] (w.alloc (.cells cs 9)).drew fun e w' => ∃ x : ByteArray, e = .returned (.string x) ∧ x.size ≤ M ∧ Dr B a len cap b w0 w' :=
  drawStrAt (D.alloc _).drew cs n M c N (new_blk w cs _ N hN) (by have := D.cur.lt; omega) hn hn0 hn1 hcs
theorem cat_sz (x y : ByteArray) : (x ++ y).size = x.size + y.size := ByteArray.size_append
set_option maxHeartbeats 2000000 in
set_option maxRecDepth 100000 in
theorem l2Text_is {B len cap b : Nat} {a : Option Addr} {w0 w : World} (D : Dr B a len cap b w0 w) :
    Calls Tryd.prog 23 #[.pointer (some ⟨b, 0, Option.none⟩)] w fun e w' => ∃ x : ByteArray, e = .returned (.string x) ∧ x.size ≤ 84 ∧ Dr B a len cap b w0 w' := by
  go_enter Tryd.func23, Tryd.ntmps23
  go_wp2_with fail
  refine (drawBelow D 14 (by omega)).mono ?_
  rintro e w1 ⟨x, rfl, hx, D1⟩
  have hx' : x ≤ 13 := by omega
  clear hx D
  go_wp2
  go_loopw [3, 4] (fun s i wr => ∃ (z : ByteArray) (k : Nat), s = .string z ∧ i = .int .i64 (k : Int) ∧ k ≤ 13 ∧ z.size ≤ (13 - k) * 6 ∧ Dr B a len cap b w0 wr) (fun _ i _ => (RowKit.intOf i).toNat)
  case atStart => exact ⟨_, x, rfl, rfl, hx', by show 0 ≤ _; omega, D1⟩
  case round =>
    obtain ⟨z, k, rfl, rfl, hk, hz, D2⟩ := hrel
    by_cases h0 : k = 0
    · subst h0
      go_wp2
      go_ret
      exact ⟨z, rfl, by omega, D2⟩
    · have h0' : (0 : Int) < (k : Int) := by omega
      go_wp2_with fail
      refine (drawStr D2 _ 24 5 _ _ rfl rfl (by omega) (by omega) rfl).mono ?_
      rintro e w3 ⟨y, rfl, hy, D3⟩
      have hzy := cat_sz z y
      clear D2
      go_wp2_with fail
      refine (drawStr D3 _ 4 1 _ _ rfl rfl (by omega) (by omega) rfl).mono ?_
      rintro e w4 ⟨y2, rfl, hy2, D4⟩
      have hzy2 := cat_sz (z ++ y) y2
      clear D3
      go_wp2
      go_roundw
      case rel => exact ⟨_, k - 1, rfl, val_int (by omega), by omega, by rw [hzy2, hzy]; omega, D4⟩
      case measure => simp [RowKit.intOf]; omega
set_option maxRecDepth 100000 in
theorem DrawNameOk_is (a : Option Addr) (len cap : Nat) (w : World) (hlen : len ≤ 281474976710656) (hC : CodeIs w.heap.size w a len) :
    Calls Tryd.prog 10 #[.slice a len cap] w fun e w' => ∃ x : ByteArray, e = .returned (.string x) ∧ x.size ≤ 100 ∧ Below w.heap.size w w' := by
  go_enter Tryd.func10, Tryd.ntmps10
  go_wp2_with fail
  refine (drawNew a len cap w hlen hC).mono ?_
  rintro e w1 ⟨rfl, D1⟩
  go_wp2_with fail
  refine (drawStr D1 _ 9 100 _ _ rfl rfl (by omega) (by omega) rfl).mono ?_
  rintro e w2 ⟨y, rfl, hy, D2⟩
  go_wp2
  go_ret
  exact ⟨y, rfl, hy, D2.bel⟩
set_option maxRecDepth 100000 in
theorem l2Prog_is {B len cap b : Nat} {a : Option Addr} {w0 w : World} (D : Dr B a len cap b w0 w) :
    Calls Tryd.prog 26 #[.pointer (some ⟨b, 0, Option.none⟩)] w fun e w' => ∃ x : ByteArray, e = .returned (.string x) ∧ x.size ≤ 1000 ∧ Dr B a len cap b w0 w' := by
  go_enter Tryd.func26, Tryd.ntmps26
  go_wp2_with fail
  refine (drawStr D _ 12 1000 _ _ rfl rfl (by omega) (by omega) (by decide +kernel)).mono ?_
  rintro e w2 ⟨y, rfl, hy, D2⟩
  go_wp2
  go_ret
  exact ⟨y, rfl, hy, D2⟩
set_option maxRecDepth 100000 in
theorem DrawTokText_is (a : Option Addr) (len cap : Nat) (w : World) (hlen : len ≤ 281474976710656) (hC : CodeIs w.heap.size w a len) :
    Calls Tryd.prog 11 #[.slice a len cap] w fun e w' => ∃ (x : ByteArray) (v : Value), e = .returned v ∧ w'.ownsRow w.heap.size 47 3 v ((lex x.data.toList).getD []).length (cellsOf ((lex x.data.toList).getD [])) ∧ Below w.heap.size w w' := by
  go_enter Tryd.func11, Tryd.ntmps11
  go_wp2_with fail
  refine (drawNew a len cap w hlen hC).mono ?_
  rintro e w1 ⟨rfl, D1⟩
  go_wp2_with fail
  refine (l2Text_is D1).mono ?_
  rintro e w2 ⟨x, rfl, hx, D2⟩
  have hb := D2.bel
  clear D1 D2
  go_wp2_with fail
  refine (spec_Lex x _ rfl w2).mono ?_
  rintro e w3 ⟨⟨v, rfl, own⟩, hb3⟩
  have hb4 := hb.trans (hb3.mono hb.size)
  have own' : w3.ownsRow w.heap.size 47 3 v ((lex x.data.toList).getD []).length (cellsOf ((lex x.data.toList).getD [])) := by
    refine ⟨own.1, ?_⟩
    rcases own.2 with h0 | ⟨g, c, cur, h1, h2, h3⟩
    · exact .inl h0
    · exact .inr ⟨g, c, cur, h1, Nat.le_trans hb.size h2, h3⟩
  have Ho := Lib.hid own'
  clear own own' hb hb3
  go_wp2
  go_ret
  exact ⟨x, v, rfl, Ho.out, hb4⟩
set_option maxHeartbeats 4000000 in
set_option maxRecDepth 100000 in
theorem DrawLex_is (a : Option Addr) (len cap : Nat) (w : World) (hlen : len ≤ 281474976710656) (hC : CodeIs w.heap.size w a len) :
    Calls Tryd.prog 7 #[.slice a len cap] w fun e w' => ∃ x : ByteArray, e = .returned (.string x) ∧ Below w.heap.size w w' := by
  go_enter Tryd.func7, Tryd.ntmps7
  go_wp2_with fail
  refine (drawNew a len cap w hlen hC).mono ?_
  rintro e w1 ⟨rfl, D1⟩
  go_wp2_with fail
  refine (l2Text_is D1).mono ?_
  rintro e w2 ⟨s, rfl, hs, D2⟩
  clear D1
  go_wp2_with fail
  refine (drawBelow D2 8 (by omega)).mono ?_
  rintro e w3 ⟨j, rfl, hj, D3⟩
  clear D2
  obtain rfl | hj0 : j = 0 ∨ j ≠ 0 := by omega
  · go_wp2_with fail
    refine (drawStr D3 _ 8 7 _ _ rfl rfl (by omega) (by omega) rfl).mono ?_
    rintro e w4 ⟨y, rfl, hy, D4⟩
    have hzy := cat_sz s y
    have hb := D4.bel
    clear D3 D4
    go_wp2
    go_ret
    exact ⟨_, rfl, hb⟩
  have j0 : ((j : Int) == 0) = false := by rw [beq_eq_false_iff_ne]; omega
  obtain rfl | hj1 : j = 1 ∨ j ≠ 1 := by omega
  · go_wp2_with fail
    refine (l2Prog_is D3).mono ?_
    rintro e w4 ⟨y, rfl, hy, D4⟩
    have hb := D4.bel
    clear D3 D4
    go_wp2
    go_ret
    exact ⟨_, rfl, hb⟩
  have j1 : ((j : Int) == 1) = false := by rw [beq_eq_false_iff_ne]; omega
  obtain rfl | hj2 : j = 2 ∨ j ≠ 2 := by omega
  · have hsI : (s.size : Int) ≤ 84 := by omega
    go_wp2_with fail
    refine (drawBelow D3 _ (by omega)).mono ?_
    rintro e w4 ⟨k, rfl, hk, D4⟩
    have hkI : (k : Int) ≤ (s.size : Int) := by omega
    have hk0 : (0 : Int) ≤ (k : Int) := by omega
    clear D3 hk
    have sl1 : ∀ w, (Instr.slice 9 (.string s) Option.none (some (.int .i64 (k : Int))) Option.none).run Tryd.prog w = .ok (.string (s.extract 0 k)) w := by
      intro w
      rw [run_slice_string_to_if w _ _ _ _ Tryd.underlying9, if_pos ⟨hk0, hkI⟩]; rfl
    have sl2 : ∀ w, (Instr.slice 9 (.string s) (some (.int .i64 (k : Int))) Option.none Option.none).run Tryd.prog w = .ok (.string (s.extract k s.size)) w := by
      intro w
      rw [run_slice_string_from_if w _ _ _ _ Tryd.underlying9, if_pos ⟨hk0, hkI⟩]; rfl
    have z1 : (s.extract 0 k).size ≤ 84 := by rw [ByteArray.size_extract]; omega
    have z2 : (s.extract k s.size).size ≤ 84 := by rw [ByteArray.size_extract]; omega
    go_wp2_with fail
    go_region_with (go_at_call 25; refine (drawStrDrew D4 _ 4 1 _ _ rfl rfl (by omega) (by omega) rfl).mono ?_; rintro e w5 ⟨y, rfl, hy, D5⟩; have z3 := cat_sz (s.extract 0 k) y; have hb := D5.bel)
    all_goals (try go_wp2_with fail)
    all_goals
      go_ret
      exact ⟨_, rfl, hb⟩
  have j2 : ((j : Int) == 2) = false := by rw [beq_eq_false_iff_ne]; omega
  clear hj0 hj1 hj2 hj
  go_wp2_with fail
  refine (drawOnce D3 50 (by omega)).mono ?_
  rintro e w4 ⟨x, rfl, D4⟩
  clear D3
  cases x with
  | false =>
    have hb := D4.bel
    go_wp2
    go_ret
    exact ⟨_, rfl, hb⟩
  | true =>
    go_wp2_with fail
    go_loopw [4, 6] (fun z i wr => ∃ (y : ByteArray) (k : Nat), z = .string y ∧ i = .int .i64 (k : Int) ∧ k ≤ 601 ∧ y.size ≤ 84 + k ∧ Dr w.heap.size a len cap w.heap.size w wr) (fun _ i _ => 602 - (RowKit.intOf i).toNat)
    case atStart => exact ⟨s, 0, rfl, rfl, by omega, by omega, D4⟩
    case round =>
      obtain ⟨y, k, rfl, rfl, hk, hy, D5⟩ := hrel
      go_wp2_with fail
      refine (drawBelow D5 3 (by omega)).mono ?_
      rintro e w6 ⟨x, rfl, hx, D6⟩
      have hzy := cat_sz y ⟨#[59]⟩
      clear D5
      by_cases hlt : (k : Int) < 599 + (x : Int)
      · go_wp2
        go_roundw
        case rel => exact ⟨_, k + 1, rfl, by go_num, by omega, by rw [hzy]; show y.size + 1 ≤ _; omega, D6⟩
        case measure => simp [RowKit.intOf]; omega
      · have hb := D6.bel
        go_wp2
        go_ret
        exact ⟨_, rfl, hb⟩
end Go.Proofs.YtoogikibmdjpiaaDoor
