/-
  A sum without a name, a range of a name: of the landed code and of the specification.
-/
import Derived.Test.YtjdpddcnogdekaaGreatP42ofMx
import Derived.Test.YtjdpddcnogdekaaGreatP35ofMx
namespace Go.Proofs.YtjdpddcnogdekaaGreat
open Go.RowKit Go.Lib
set_option linter.unusedSimpArgs false
set_option linter.unusedVariables false

def rest11 (ts : List AR) (s : ByteArray) : List AR := ts.filter fun t => !(decide (t.s = s))
theorem rest11_len (ts : List AR) (s : ByteArray) : (rest11 ts s).length ≤ ts.length := List.length_filter_le _ _
theorem rest11_eq {ts : List AR} {k : Nat} {t : AR} {s : ByteArray} (h : ts[k]? = some t) (e : t.s = s) : rest11 (ts.take (k + 1)) s = rest11 (ts.take k) s := by
  rw [take_snocA h, rest11, List.filter_append]; simp [rest11, e]
theorem rest11_ne {ts : List AR} {k : Nat} {t : AR} {s : ByteArray} (h : ts[k]? = some t) (e : ¬ t.s = s) : rest11 (ts.take (k + 1)) s = rest11 (ts.take k) s ++ [t] := by
  rw [take_snocA h, rest11, List.filter_append]; simp [rest11, e]
theorem lt_heap11 {w : World} {g : Nat} {o : Obj} (h : w.heap[g]? = some o) : g < w.heap.size := (Array.getElem?_eq_some_iff.1 h).1
theorem heap_b11 {A B : World} {b : Nat} {x : Obj} (h : A.heap[b]? = some x) (hb : Below A.heap.size A B) : B.heap[b]? = some x := (hb.block b (lt_heap11 h)).trans h
theorem own_later11 {w w' : World} {B sz n : Nat} {e : TypeId} {v : Value} {xs : List Value} (h : w.ownsRow B e sz v n xs) (hk : ∀ g c, B ≤ g → w.heap[g]? = some (.cells c e (0, 0)) → w'.heap[g]? = w.heap[g]?) : w'.ownsRow B e sz v n xs := by
  refine ⟨h.1, ?_⟩
  rcases h.2 with h0 | ⟨g, cap, cur, h1, h2, h3, h4⟩
  · exact .inl h0
  · exact .inr ⟨g, cap, cur, h1, h2, (hk g cur h2 h3).trans h3, h4⟩
theorem ne_types11 {w : World} {g p : Nat} {c : Array Value} {x : Array Value} (hh : w.heap[g]? = some (.cells c 70 (0, 0))) (hp : w.heap[p]? = some (.cells x 26 (0, 0))) : g ≠ p := by
  intro e
  subst e
  have h2 := Option.some.inj (hp.symm.trans hh)
  injection h2 with _ h3 _
  exact absurd h3 (by decide)
theorem own_ne11 {w : World} {B n p : Nat} {v : Value} {xs : List Value} {x : Array Value} (h : w.ownsRow B 70 2 v n xs) (hp : w.heap[p]? = some (.cells x 26 (0, 0))) : v.ownBlock ≠ some p := by
  intro e
  rcases h.2 with ⟨h0, _⟩ | ⟨g, cap, cur, h1, h2, h3, _⟩
  · subst h0; cases e
  · subst h1
    have : g = p := by simpa [Value.ownBlock] using e
    exact ne_types11 h3 hp this
/-- While the rest of a sum is put together. -/
structure Rs11 (w wr : World) (c : Int) (X : List AR) (v : Value) : Prop where
  own : wr.ownsRow w.heap.size 70 2 v X.length (acells X)
  box : wr.heap[w.heap.size + 1 + 1]? = some (.cells #[.int .i64 c, v] 26 (0, 0))
  res : wr.heap[w.heap.size + 1]? = some (.cells #[.int .i64 0, .slice Option.none 0 0] 26 (0, 0))
  low : Below w.heap.size w wr
theorem Rs11.later {w wr w' : World} {c : Int} {X : List AR} {v : Value} (h : Rs11 w wr c X v) (hb : Below wr.heap.size wr w') : Rs11 w w' c X v :=
  ⟨own_later11 h.own (fun g _ _ hg => hb.block g (lt_heap11 hg)), heap_b11 h.box hb, heap_b11 h.res hb, h.low.trans (hb.mono h.low.size)⟩
theorem Rs11.box8 {w wb w8 : World} {c : Int} {X : List AR} {v : Value} (h : Rs11 w wb c X v) (hg : wb.grownBy w8 v.ownBlock) : w8.heap[w.heap.size + 1 + 1]? = some (.cells #[.int .i64 c, v] 26 (0, 0)) :=
  (hg.block _ (lt_heap11 h.box) (fun e => own_ne11 h.own h.box e.symm)).trans h.box
theorem Rs11.app {w wb w8 : World} {c : Int} {X : List AR} {v v' : Value} {t : AR} (h : Rs11 w wb c X v) (ho : w8.ownsRow w.heap.size 70 2 v' (X.length + 1) (acells X ++ acells [t])) (hg : wb.grownBy w8 v.ownBlock) :
    Rs11 w (w8.setCell ⟨w.heap.size + 1 + 1, 1, Option.none⟩ v') c (X ++ [t]) v' := by
  have hb8 := h.box8 hg
  have hr8 := (hg.block _ (lt_heap11 h.res) (fun e => own_ne11 h.own h.res e.symm)).trans h.res
  refine ⟨?_, Go.heap_setCell_same _ _ 1 _ _ v' hb8, (Below.heap_setCell _ _ _ _ (by show w.heap.size + 1 ≠ w.heap.size + 1 + 1; omega)).trans hr8, ?_⟩
  · rw [List.length_append, acells_app11]
    exact own_later11 ho (fun g c hg hh => Below.heap_setCell _ _ _ _ (ne_types11 hh hb8))
  · have h1 : Below w.heap.size w w8 := h.low.grown hg h.low.size (fun k hk => (h.own.lt k hk).1)
    exact h1.setCell (p := ⟨w.heap.size + 1 + 1, 1, Option.none⟩) (Nat.le_trans (Nat.le_succ _) (Nat.le_succ _)) _
theorem heap3q11 (w : World) (a b c : Obj) : (((w.alloc a).alloc b).alloc c).heap[w.heap.size]? = some a ∧ (((w.alloc a).alloc b).alloc c).heap[w.heap.size + 1]? = some b ∧ (((w.alloc a).alloc b).alloc c).heap[w.heap.size + 1 + 1]? = some c := heap3 w a b c
theorem one11 {w : World} {b : Nat} {t : AR} {x : TypeId} (h : w.heap[b]? = some (.cells #[.string t.s, .int .i64 t.n] x (0, 0))) : AV w 0 (.slice (some ⟨b, 0, Option.none⟩) 1 1) [t] := by
  obtain ⟨⟨c0, c1⟩, _⟩ := blk2 h
  refine ⟨_, 1, rfl, .inr ⟨b, 0, rfl, Nat.zero_le _, lt_heap11 h, fun i u hi => ?_⟩⟩
  match i, hi with
  | 0, hi => obtain rfl : t = u := by simpa using hi
             exact ⟨c0, c1⟩
  | i + 1, hi => simp at hi
set_option maxHeartbeats 1000000 in
set_option maxRecDepth 100000 in
theorem restOf_is (c : Int) (ts : List AR) (hn : ts.length ≤ 10000000) (s : ByteArray) (va : Value) (w : World) (ha : AV w 0 va ts) :
    Calls Tryz.prog 31 #[.agg #[.int .i64 c, va], .string s] w fun e w' => ∃ v' cp, e = .returned (.agg #[.int .i64 c, .slice v' (rest11 ts s).length cp]) ∧ AV w' 0 (.slice v' (rest11 ts s).length cp) (rest11 ts s) ∧ Below w.heap.size w w' := by
  obtain ⟨ao, cap, rfl, hr⟩ := ha
  have Hr := Lib.hid hr
  have HN := Lib.hid hn
  have hnI : (ts.length : Int) ≤ 10000000 := by omega
  obtain ⟨q0, q1, q2⟩ := heap3q11 w (.cells #[.int .i64 c, .slice ao ts.length cap] 26) (.cells #[.int .i64 0, .slice Option.none 0 0] 26) (.cells #[.int .i64 c, .slice Option.none 0 0] 26)
  have hb3 : Below w.heap.size w (((w.alloc (.cells #[.int .i64 c, .slice ao ts.length cap] 26)).alloc (.cells #[.int .i64 0, .slice Option.none 0 0] 26)).alloc (.cells #[.int .i64 c, .slice Option.none 0 0] 26)) := ((alloc_below w _).alloc (by simp) _).alloc (by simp; omega) _
  have R0 := Lib.hid (Rs11.mk (X := []) (World.ownsRow_nil _ _ _ _) q2 q1 hb3)
  clear hr hn q0 q1 q2 hb3
  go_enter Tryz.func31, Tryz.ntmps31
  go_wp2
  go_loopw [14] (fun i wr => ∃ (k : Nat) (X : List AR) (v : Value), k ≤ ts.length ∧ i = .int .i64 k ∧ Hid (X = rest11 (ts.take k) s) ∧ Hid (Rs11 w wr c X v)) (fun i _ => ts.length - (RowKit.intOf i).toNat)
  case atStart => exact ⟨0, [], _, by omega, rfl, rfl, R0⟩
  case round =>
    obtain ⟨k, X, v, hk, rfl, HX, HR⟩ := hrel
    obtain ⟨va1, vc1, rfl⟩ := ownShape11 HR.out.own
    by_cases hlt : k < ts.length
    · have hltI : (k : Int) < (ts.length : Int) := by omega
      obtain ⟨t, ht⟩ : ∃ t, ts[k]? = some t := ⟨ts[k], List.getElem?_eq_getElem hlt⟩
      rcases Hr.out with hr | ⟨g, off, rfl, _, gl, hc⟩
      · subst hr; simp at hlt
      have A0 := (HR.out.low.cell (p := ⟨g, off + k * 2, Option.none⟩) gl).trans (hc k t ht).1
      have A1 := (HR.out.low.cell (p := ⟨g, off + k * 2 + 1, Option.none⟩) gl).trans (hc k t ht).2
      have HT := Lib.hid ht
      clear hc ht
      have ba := alloc_below wr (.cells #[.string t.s, .int .i64 t.n] 70)
      have RA := Lib.hid (HR.out.later ba)
      by_cases he : t.s = s
      · have HX2 : Hid (X = rest11 (ts.take (k + 1)) s) := show _ = _ by rw [rest11_eq HT.out he, HX.out]
        clear ba
        subst he
        go_wp2
        go_roundw
        case rel => exact ⟨k + 1, X, _, by omega, by go_num, HX2.out, RA.out⟩
        case measure => simp [RowKit.intOf]; omega
      · have HX2 : Hid (X ++ [t] = rest11 (ts.take (k + 1)) s) := show _ = _ by rw [rest11_ne HT.out he, HX.out]
        have hne := str_ne he
        have bb := alloc_below (wr.alloc (.cells #[.string t.s, .int .i64 t.n] 70)) (.cells #[.string t.s, .int .i64 t.n] 70)
        have RB := Lib.hid (RA.out.later bb)
        have hl := heap_last (wr.alloc (.cells #[.string t.s, .int .i64 t.n] 70)) (.cells #[.string t.s, .int .i64 t.n] 70)
        rw [World.size_alloc] at hl
        have hXl : X.length ≤ ts.length := by have := rest11_len (ts.take k) s; rw [← HX.out] at this; simp only [List.length_take] at this; omega
        obtain ⟨v', w8, hrun, hown, hgr⟩ := appT11 (ts := [t]) RB.out.own RB.out.low.size (one11 hl) (by have := HN.out; simp; omega) 24
        obtain ⟨⟨y0, y1⟩, _⟩ := blk2 RA.out.box
        obtain ⟨⟨e0, e1⟩, k0, k1⟩ := blk2 (RB.out.box8 hgr)
        have R9 := Lib.hid (RB.out.app hown hgr)
        obtain ⟨a8, c8, rfl⟩ := ownShape11 hown
        simp only [List.length_cons, List.length_nil, Nat.zero_add] at hrun
        clear hown hgr hl ba bb hXl
        go_wp2_with (at_builtin; refine wpList_app11 rfl _ _ 24 _ _ _ rfl rfl rfl hrun ?_)
        go_roundw
        case rel => exact ⟨k + 1, X ++ [t], _, by omega, by go_num, HX2.out, R9.out⟩
        case measure => simp [RowKit.intOf]; omega
    · have HX2 : Hid (X = rest11 ts s) := show _ = _ by rw [HX.out, List.take_of_length_le (by omega)]
      have HAV := Lib.hid (AV.ofOwn11 HR.out.own)
      obtain ⟨⟨y0, y1⟩, _⟩ := blk2 HR.out.box
      obtain ⟨⟨e0, e1⟩, k0, k1⟩ := blk2 HR.out.res
      go_wp2
      have f0 := Go.heap_setCell_same _ _ 0 _ _ (.int .i64 c) HR.out.res
      have f1 := Go.heap_setCell_same _ _ 1 _ _ (.slice va1 X.length vc1) f0
      obtain ⟨⟨z0, z1⟩, _⟩ := blk2 f1
      have hfin : Below w.heap.size w ((wr.setCell ⟨w.heap.size + 1, 0, Option.none⟩ (.int .i64 c)).setCell ⟨w.heap.size + 1, 1, Option.none⟩ (.slice va1 X.length vc1)) := (HR.out.low.setCell (p := ⟨w.heap.size + 1, 0, Option.none⟩) (Nat.le_succ _) _).setCell (p := ⟨w.heap.size + 1, 1, Option.none⟩) (Nat.le_succ _) _
      have hav : AV ((wr.setCell ⟨w.heap.size + 1, 0, Option.none⟩ (.int .i64 c)).setCell ⟨w.heap.size + 1, 1, Option.none⟩ (.slice va1 X.length vc1)) 0 (.slice va1 X.length vc1) X := AV.ofOwn11 (own_later11 HR.out.own (fun g c2 hg hh => (Below.heap_setCell _ _ _ _ (ne_types11 hh HR.out.res)).trans (Below.heap_setCell _ _ _ _ (ne_types11 hh HR.out.res))))
      have hXe := HX2.out
      subst hXe
      exact bodyPost_ret (v := .agg #[.int .i64 c, .slice va1 (rest11 ts s).length vc1]) (by simp [results, Tryz.results31, go_sem, z0, z1]) rfl ⟨_, _, rfl, hav, hfin⟩
end Go.Proofs.YtjdpddcnogdekaaGreat
