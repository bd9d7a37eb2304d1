/-
  Texts in one: AstProg, StoNew, ToInts, SameInts, SameFunc.
-/
import Derived.Test.YtcafpaahbbachabP02ofSameSto
import Derived.Test.YtcafpaahbbachabP03ofSameSto
import Derived.Deep.AppendLies
import Derived.Test.YtcafpaahbbachabP01ofSameSto
import Derived.Deep.QuietTactic
import Derived.BigQuiet
/-
  Programs: the contracts of szProg, toProg, eqProg, and of ArrAt, the specification's and the landed code's.
-/
namespace Go.Proofs.Ytcafpaahbbachab
open Go.RowKit Go.Lib
set_option linter.unusedSimpArgs false
set_option linter.unusedVariables false

theorem heap_last (v : World) (o : Obj) : (v.alloc o).heap[v.heap.size]? = some o := by show (v.heap.push o)[v.heap.size]? = _; simp
theorem blk2 {w : World} {b : Nat} {x y : Value} {t : TypeId} (h : w.heap[b]? = some (.cells #[x, y] t (0, 0))) :
    (w.cell? ⟨b, 0, Option.none⟩ = some x ∧ w.cell? ⟨b, 1, Option.none⟩ = some y) ∧ w.frozen? ⟨b, 0, Option.none⟩ = false ∧ w.frozen? ⟨b, 1, Option.none⟩ = false := by
  simp [World.cell?, World.frozen?, h]
theorem there_keep {w : World} {b c : Nat} {o : Obj} (hne : b ≠ c) (h : w.heap[b]? = some o) (i : Nat) (v : Value) : (w.setCell ⟨c, i, Option.none⟩ v).heap[b]? = some o := by rw [Below.heap_setCell _ _ _ _ hne]; exact h
theorem blk2_set {w : World} {b : Nat} {x y : Value} {t : TypeId} (v : Value) (h : w.heap[b]? = some (.cells #[x, y] t (0, 0))) : (w.setCell ⟨b, 0, Option.none⟩ v).heap[b]? = some (.cells #[v, y] t (0, 0)) := by
  have hlt := (Array.getElem?_eq_some_iff.1 h).1
  have h' : w.heap[b] = .cells #[x, y] t (0, 0) := by simpa [Array.getElem?_eq_getElem hlt] using h
  show (w.heap.modify b _)[b]? = _
  rw [Array.getElem?_eq_getElem (by simpa using hlt), Array.getElem_modify_self, h']
  rfl
theorem set3 {w w1 : World} {N : Nat} (hb : Below w.heap.size w w1) (hN : w.heap.size = N) (p x y : Value) : Below w.heap.size w (((w1.setCell ⟨N + 2, 1, Option.none⟩ p).setCell ⟨N + 1, 0, Option.none⟩ x).setCell ⟨N + 1, 1, Option.none⟩ y) ∧
    Keeps (w.heap.size + 3) w1 (((w1.setCell ⟨N + 2, 1, Option.none⟩ p).setCell ⟨N + 1, 0, Option.none⟩ x).setCell ⟨N + 1, 1, Option.none⟩ y) ∧ w1.heap.size ≤ (((w1.setCell ⟨N + 2, 1, Option.none⟩ p).setCell ⟨N + 1, 0, Option.none⟩ x).setCell ⟨N + 1, 1, Option.none⟩ y).heap.size := by
  subst hN
  exact ⟨((hb.setCell (p := ⟨w.heap.size + 2, 1, Option.none⟩) (by simp) _).setCell (p := ⟨w.heap.size + 1, 0, Option.none⟩) (by simp) _).setCell (p := ⟨w.heap.size + 1, 1, Option.none⟩) (by simp) _,
    ((Keeps.set _ _ (by simp) _).trans (Keeps.set _ _ (by simp) _)).trans (Keeps.set _ _ (by simp) _), by simp⟩
theorem arrAt_cells {w : World} {v : Value} {ts : List AR} (h : AV w 0 v ts) (hne : ts ≠ []) : ∃ g off cap, v = .slice (some ⟨g, off, Option.none⟩) ts.length cap ∧ ∀ i t, ts[i]? = some t → w.cell? ⟨g, off + i * 2, Option.none⟩ = some (.string t.s) ∧ w.cell? ⟨g, off + i * 2 + 1, Option.none⟩ = some (.int .i64 t.n) := by
  obtain ⟨ao, cap, rfl, h⟩ := h
  rcases h with h | ⟨g, off, rfl, _, _, h3⟩
  · exact absurd h hne
  · exact ⟨g, off, cap, rfl, h3⟩
/-- Where the first of that name stands; -1. -/
def arrAt (ts : List AR) (s : ByteArray) : Int := match ts.findIdx? (fun t => t.s == s) with | some i => i | Option.none => -1
def arrGo : List AR → Nat → ByteArray → Int
  | [], _, _ => -1
  | t :: ts, k, s => if t.s = s then k else arrGo ts (k + 1) s
theorem newthere2 (w : World) (x y : Value) (t : TypeId) : (w.alloc (.cells #[x, y] t)).there w.heap.size 0 2 := blk_there (arr := #[x, y]) (t := t) (by show (w.heap.push _)[w.heap.size]? = _; simp) (Nat.le_refl 2)
end Go.Proofs.Ytcafpaahbbachab
/-
  A new store: the contracts of noughts, impl.StoNew, spec.StoNew.
-/
namespace Go.Proofs.Ytcafpaahbbachab
open Go.RowKit Go.Lib
set_option linter.unusedSimpArgs false
set_option linter.unusedVariables false

/-- So many noughts; none of what is no size. -/
def nz (n : Int) : List Int := if n < 0 ∨ 16 < n then [] else List.replicate n.toNat 0
theorem nz_len (n : Int) : (nz n).length ≤ 16 := by
  unfold nz
  split
  · simp
  · rw [List.length_replicate]; omega
theorem made0 (n : Nat) : (madeCells #[Value.int .i64 0] n).toList = ints (List.replicate n 0) := by
  apply List.ext_getElem?
  intro i
  by_cases h : i < n
  · simp [madeCells, ints, h, Value.cells, List.getElem?_replicate, Nat.mod_one]
  · simp [madeCells, ints, h, Value.cells, List.getElem?_replicate, Nat.mod_one]
theorem infoI8 : (Try.prog.info? 3).map (fun i => (i.zero, i.size, i.bytes)) = some (some (.int .i64 0), 1, 8) := by kernel_rfl
theorem infoIS8 : (Try.prog.info? 23).map (fun i => (i.zero, i.size, i.bytes)) = some (some (.slice Option.none 0 0), 1, 24) := by kernel_rfl
theorem sizeSto : (Try.prog.info? 28).map (·.size) = some 4 := by kernel_rfl
/-- A fresh row of noughts. -/
def Fresh (w w' : World) (v : Value) (xs : List Int) : Prop := w'.ownsRow w.heap.size 3 1 v xs.length (ints xs) ∧ Below w.heap.size w w'
theorem fresh_made {w w1 : World} {n : Nat} (hown : w1.ownsRow w.heap.size 3 1 (.slice (some ⟨w.heap.size, 0, Option.none⟩) n n) n (madeCells #[Value.int .i64 0] n).toList) (hgrow : w.grownBy w1 Option.none) : Fresh w w1 (.slice (some ⟨w.heap.size, 0, Option.none⟩) n n) (List.replicate n 0) := by
  rw [made0] at hown
  exact ⟨by rw [List.length_replicate]; exact hown, (Below.refl _ w).grown hgrow (Nat.le_refl _) (fun k hk => by cases hk)⟩
theorem own_ne {w : World} {B sz n N : Nat} {e t : TypeId} {v : Value} {xs : List Value} {ar : Array Value} {fr : Nat × Nat} (h : w.ownsRow B e sz v n xs) (hN : w.heap[N]? = some (.cells ar t fr)) (ht : t ≠ e) : v.ownBlock ≠ some N := by
  intro ek
  rcases h.2 with ⟨e0, _⟩ | ⟨g', cap', cur', e1, e2, e3, e4⟩
  · rw [e0] at ek; cases ek
  · rw [e1] at ek
    injection ek with ek
    rw [show g' = N from ek] at e3
    rw [hN] at e3
    injection e3 with e3
    injection e3 with _ e3 _
    exact ht e3
theorem own_own {w : World} {B C sz sz' n n' : Nat} {e e' : TypeId} {v v' : Value} {xs xs' : List Value} (h : w.ownsRow B e sz v n xs) (h' : w.ownsRow C e' sz' v' n' xs') (he : e' ≠ e) : ∀ k, v.ownBlock = some k → v'.ownBlock ≠ some k := by
  intro k hk
  rcases h'.2 with ⟨e0, _⟩ | ⟨g', cap', cur', e1, e2, e3, e4⟩
  · rw [e0]; intro h; cases h
  · rw [e1]
    intro hk2
    injection hk2 with hk2
    exact own_ne h e3 he (by rw [hk, ← hk2])
theorem own_lower {w : World} {B C sz n : Nat} {e : TypeId} {v : Value} {xs : List Value} (h : w.ownsRow B e sz v n xs) (hc : C ≤ B) : w.ownsRow C e sz v n xs := by
  refine ⟨h.1, ?_⟩
  rcases h.2 with h0 | ⟨g, cap, cur, h1, h2, h3⟩
  · exact .inl h0
  · exact .inr ⟨g, cap, cur, h1, Nat.le_trans hc h2, h3⟩
/-- One row more, made since. -/
theorem Owns.insert {w w' : World} {B : Nat} {P Q : List VR} (h : Owns w B (P ++ Q)) (hB : B ≤ w.heap.size) {v : Value} {xs : List Int} (hf : Fresh w w' v xs) : Owns w' B (P ++ (v, xs) :: Q) := by
  have old := h.later hf.2
  have hlt : ∀ r ∈ P ++ Q, ∀ k, r.1.ownBlock = some k → k < w.heap.size := fun r hr k hk => ((h.own r hr).lt k hk).2
  have hge : ∀ k, v.ownBlock = some k → w.heap.size ≤ k := fun k hk => (hf.1.lt k hk).1
  have hp := h.apart
  rw [List.pairwise_append] at hp
  refine ⟨fun r hr => ?_, ?_⟩
  · rcases List.mem_append.1 hr with hr | hr
    · exact old.own r (List.mem_append_left _ hr)
    · rcases List.mem_cons.1 hr with rfl | hr
      · exact own_lower hf.1 hB
      · exact old.own r (List.mem_append_right _ hr)
  · rw [List.pairwise_append, List.pairwise_cons]
    refine ⟨hp.1, ⟨fun r hr k hk ek => ?_, hp.2.1⟩, fun a ha b hb => ?_⟩
    · have h1 := hlt r (List.mem_append_right _ hr) k ek
      have h2 := hge k hk
      omega
    · rcases List.mem_cons.1 hb with rfl | hb
      · intro k hk ek
        have h1 := hlt a (List.mem_append_left _ ha) k hk
        have h2 := hge k ek
        omega
      · exact hp.2.2 a ha b hb
/-- A store in a variable's block, its rows owned. -/
structure StB (w0 w : World) (B N : Nat) (ua : Value) (rs : List VR) (v : VR) : Prop where
  blk : w.heap[N]? = some (.cells #[ua, v.1, .slice Option.none 0 0, .int .i64 0] 28 (0, 0))
  out : w.ownsRow B 23 1 ua rs.length (rs.map (·.1))
  own : Owns w B (rs ++ [v, (.slice Option.none 0 0, [])])
  low : Below B w0 w
  ge : B ≤ N ∧ B ≤ w.heap.size
theorem StB.later {w0 w w' : World} {B N : Nat} {ua : Value} {rs : List VR} {v : VR} (h : StB w0 w B N ua rs v) (hb : Below w.heap.size w w') : StB w0 w' B N ua rs v :=
  ⟨(hb.block _ (lt_heap h.blk)).trans h.blk, ownB h.out hb, h.own.later hb, h.low.trans (hb.mono h.ge.2), h.ge.1, Nat.le_trans h.ge.2 hb.size⟩
/-- One row more. -/
theorem StB.next {w0 w w3 w4 w6 : World} {B N g c : Nat} {ua v3 : Value} {rs : List VR} {v : VR} {xs : List Int} {o : Obj} (h : StB w0 w B N ua rs v) (hf : Fresh w w3 v3 xs) (hw4 : w4 = w3.alloc o)
    (hown : w6.ownsRow B 23 1 (.slice (some ⟨g, 0, Option.none⟩) (rs.length + 1) c) (rs.length + 1) (rs.map (·.1) ++ [v3])) (hg : w4.grownBy w6 ua.ownBlock) :
    StB w0 (w6.setCell ⟨N, 0, Option.none⟩ (.slice (some ⟨g, 0, Option.none⟩) (rs.length + 1) c)) B N (.slice (some ⟨g, 0, Option.none⟩) (rs.length + 1) c) (rs ++ [(v3, xs)]) v := by
  have hb4 : Below w3.heap.size w3 w4 := by rw [hw4]; exact alloc_below _ _
  have h3 := h.later hf.2
  have h4 := h3.later hb4
  have o4 : Owns w4 B (rs ++ (v3, xs) :: [v, (.slice Option.none 0 0, [])]) := (h.own.insert h.ge.2 hf).later hb4
  have b6 : w6.heap[N]? = some (.cells #[ua, v.1, .slice Option.none 0 0, .int .i64 0] 28 (0, 0)) := (hg.block N (lt_heap h4.blk) (fun e => own_ne h4.out h4.blk (by decide) e.symm)).trans h4.blk
  have o6 : Owns w6 B (rs ++ (v3, xs) :: [v, (.slice Option.none 0 0, [])]) := ⟨fun r hr => ownG (o4.own r hr) hg (fun k hk => own_own (o4.own r hr) h4.out (by decide) k hk), o4.apart⟩
  have l6 : Below B w0 w6 := h4.low.trans ⟨hg.os, hg.tape, hg.output, hg.size, fun k hk => hg.block k (by have := h4.ge.2; omega) (fun e => by have := (h4.out.lt k e.symm).1; omega)⟩
  have hs := grownBy_set (w := w6) (g := N) ⟨N, 0, Option.none⟩ rfl (.slice (some ⟨g, 0, Option.none⟩) (rs.length + 1) c)
  refine ⟨?_, ?_, ?_, ?_, h.ge.1, ?_⟩
  · have := Go.heap_setCell_same w6 N 0 _ _ (.slice (some ⟨g, 0, Option.none⟩) (rs.length + 1) c) b6
    rw [this]; rfl
  · refine ownG (r := some N) ?_ hs (fun k hk ek => by injection ek with ek; subst ek; exact own_ne hown b6 (by decide) hk)
    rw [List.length_append, List.map_append]; exact hown
  · rw [List.append_assoc]
    exact ⟨fun r hr => ownG (o6.own r hr) hs (fun k hk ek => by injection ek with ek; subst ek; exact own_ne (o6.own r hr) b6 (by decide) hk), o6.apart⟩
  · exact l6.setCell (p := ⟨N, 0, Option.none⟩) h.ge.1 _
  · rw [World.size_setCell]; exact Nat.le_trans h4.ge.2 hg.size
theorem StB.stoO {w0 w : World} {B N : Nat} {ua : Value} {rs : List VR} {v : VR} (h : StB w0 w B N ua rs v) : StoO w B ua rs v (.slice Option.none 0 0, []) := ⟨h.out, h.own⟩
theorem StB.start {w0 w w' : World} {B N : Nat} {v : Value} {xs : List Int} (hf : Fresh w w' v xs) (hlow : Below B w0 w) (hB : B ≤ w.heap.size) {w2 : World} (h2 : Below w'.heap.size w' w2) (hN : w2.heap[N]? = some (.cells #[.slice Option.none 0 0, v, .slice Option.none 0 0, .int .i64 0] 28 (0, 0))) (hBN : B ≤ N) : StB w0 w2 B N (.slice Option.none 0 0) [] (v, xs) := by
  have e1 := (Owns.insert (P := []) (Q := []) (Owns.nil w B) hB hf)
  have e2 : Owns w2 B [(v, xs)] := Owns.later e1 h2
  refine ⟨hN, World.ownsRow_nil _ _ _ _, ?_, hlow.trans ((hf.2.mono hB).trans (h2.mono (Nat.le_trans hB hf.2.size))), hBN, Nat.le_trans hB (Nat.le_trans hf.2.size h2.size)⟩
  refine ⟨fun r hr => ?_, ?_⟩
  · rcases List.mem_cons.1 hr with rfl | hr
    · exact e2.own _ (by simp)
    · simp at hr; subst hr; exact World.ownsRow_nil _ _ _ _
  · simp only [List.nil_append, List.pairwise_cons, List.mem_cons, List.not_mem_nil, or_false, false_implies, implies_true, List.Pairwise.nil, and_true, forall_eq]
    intro k _ h; cases h
/-- What a new store's arrays are. -/
def zrows (ts : List AR) : List (List Int) := ts.map fun t => nz t.n
theorem zrows_take {ts : List AR} {k : Nat} {t : AR} (h : ts[k]? = some t) : zrows (ts.take (k + 1)) = zrows (ts.take k) ++ [nz t.n] := by
  rw [List.take_add_one, h]; simp [zrows]
def NewSto (w : World) (ts : List AR) (n : Nat) (e : Ending) (w' : World) : Prop :=
  ∃ ua v rs, e = .returned (.agg #[ua, v, .slice Option.none 0 0, .int .i64 0]) ∧ rs.map (·.2) = zrows ts ∧ StoO w' w.heap.size ua rs (v, List.replicate n 0) (.slice Option.none 0 0, []) ∧ Below w.heap.size w w'
end Go.Proofs.Ytcafpaahbbachab
/-
  Copies of stores: toIntS, toIntSS, toSto.
-/
namespace Go.Proofs.Ytcafpaahbbachab
open Go.RowKit Go.Lib
set_option linter.unusedSimpArgs false
set_option linter.unusedVariables false

theorem ints_step (xs : List Int) (k : Nat) (x : Int) (hx : xs[k]? = some x) : (ints (xs.take k ++ List.replicate (xs.length - k) 0)).set k (.int .i64 x) = ints (xs.take (k + 1) ++ List.replicate (xs.length - (k + 1)) 0) := by
  obtain ⟨hk, e⟩ := List.getElem?_eq_some_iff.1 hx
  have hl : (xs.take k).length = k := by simp; omega
  obtain ⟨q, hq⟩ : ∃ q, xs.length - k = q + 1 := ⟨xs.length - k - 1, by omega⟩
  rw [List.take_add_one, hx, hq, show xs.length - (k + 1) = q by omega, List.replicate_succ, ints, ints, List.map_append, List.map_cons, List.set_append_right _ _ (by rw [List.length_map, hl]; exact Nat.le_refl _), List.length_map, hl, Nat.sub_self, List.set_cons_zero]
  simp
set_option maxHeartbeats 2000000 in
set_option maxRecDepth 100000 in
theorem toIntS_is (xs : List Int) (hn : xs.length ≤ 1048576) (v : Value) (w : World) (hv : IV w 0 v xs) :
    Calls Try.prog 13 #[v] w fun e w' => ∃ v', e = .returned v' ∧ IV w' w.heap.size v' xs ∧ Below w.heap.size w w' := by
  have HV := Lib.hid hv
  obtain ⟨ao, cap, rfl⟩ := hv.shape
  obtain ⟨i0, hi, hz0, hz1, hz2⟩ := info_parts infoI8
  clear hv
  go_enter Try.func13, Try.ntmps13
  go_wp2_with (refine wpList_make_full _ rfl _ _ 23 rfl w.heap.size 3 i0 _ 1 Try.underlying23 hi hz0 hz1 .i64 .i64 _ _ xs.length rfl rfl rfl rfl ?c1 ?c2 ?c3 ?_)
  case c1 => first | omega | (rw [hz2]; omega)
  case c2 => unfold maxLen; omega
  try (case c3 => exact Nat.le_refl _)
  intro w1 hown hgrow
  have HF := Lib.hid (fresh_made hown hgrow)
  clear hown hgrow hi hz0 hz1 hz2
  go_wp2
  go_loopw [4] (fun i wr => ∃ k : Nat, k ≤ xs.length ∧ i = .int .i64 k ∧ Hid (wr.ownsRow w.heap.size 3 1 (.slice (some ⟨w.heap.size, 0, Option.none⟩) xs.length xs.length) xs.length (ints (xs.take k ++ List.replicate (xs.length - k) 0))) ∧ Below w.heap.size w wr) (fun i _ => xs.length - (RowKit.intOf i).toNat)
  case atStart => exact ⟨0, by omega, rfl, (by have := HF.out.1; rw [List.length_replicate] at this; show World.ownsRow _ _ _ _ _ _ _; simpa using this), HF.out.2⟩
  case round =>
    obtain ⟨k, hk, rfl, ho, hb⟩ := hrel
    by_cases hlt : k < xs.length
    · have hltI : (k : Int) < (xs.length : Int) := by omega
      obtain ⟨x, hx⟩ : ∃ x, xs[k]? = some x := ⟨xs[k], List.getElem?_eq_getElem hlt⟩
      obtain ⟨g, off, rfl, A0⟩ := (HV.out.later hb).at hx
      have hs2 : (ints (xs.take k ++ List.replicate (xs.length - k) 0))[k]? = some (.int .i64 0) := by
        apply ints_get
        rw [List.getElem?_append_right (by simp; omega), List.getElem?_replicate, if_pos (by simp; omega)]
      obtain ⟨c3, f3⟩ := iown_cell ho.out hs2
      have n1 := iown_put (j := k) ho.out (.int .i64 x)
      rw [ints_step xs k x hx] at n1
      have N1 := Lib.hid n1
      have n2 := hb.setCell (p := ⟨w.heap.size, k, Option.none⟩) (Nat.le_refl _) (.int .i64 x)
      clear ho hs2 n1 hx
      go_wp2
      go_roundw
      case rel => exact ⟨k + 1, by omega, by go_num, N1.out, n2⟩
      case measure => simp [RowKit.intOf]; omega
    · have ho2 := ho.out
      rw [List.take_of_length_le (by omega), show xs.length - k = 0 by omega, List.replicate_zero, List.append_nil] at ho2
      have HO := Lib.hid ho2
      clear ho2 ho
      go_wp2
      go_ret
      exact ⟨_, rfl, IV.of rfl HO.out, hb⟩
theorem madeS (n : Nat) : (madeCells #[Value.slice Option.none 0 0] n).toList = List.replicate n (.slice Option.none 0 0) := by
  apply List.ext_getElem?
  intro i
  by_cases h : i < n
  · simp [madeCells, h, List.getElem?_replicate, Nat.mod_one]
  · simp [madeCells, h, List.getElem?_replicate, Nat.mod_one]
/-- The first of them are copied. -/
structure Cpd (w w' : World) (A : List (List Int)) (us : List Value) (k : Nat) : Prop where
  len : us.length = k
  own : w'.ownsRow w.heap.size 23 1 (.slice (some ⟨w.heap.size, 0, Option.none⟩) A.length A.length) A.length (us ++ List.replicate (A.length - k) (.slice Option.none 0 0))
  rows : ∀ (i : Nat) u xs, us[i]? = some u → A[i]? = some xs → IV w' (w.heap.size + 1) u xs
  low : Below w.heap.size w w'
  size : w.heap.size < w'.heap.size
theorem Cpd.next {w w' w2 : World} {A : List (List Int)} {us : List Value} {k : Nat} {x : List Int} {u : Value} (h : Cpd w w' A us k) (hx : A[k]? = some x) (hu : IV w2 w'.heap.size u x) (hb : Below w'.heap.size w' w2) : Cpd w (w2.setCell ⟨w.heap.size, k, Option.none⟩ u) A (us ++ [u]) (k + 1) := by
  have hk : k < A.length := (List.getElem?_eq_some_iff.1 hx).1
  obtain ⟨q, hq⟩ : ∃ q, A.length - k = q + 1 := ⟨A.length - k - 1, by omega⟩
  have n1 := iown_put (j := k) (ownB h.own hb) u
  have e : (us ++ List.replicate (A.length - k) (Value.slice Option.none 0 0)).set k u = us ++ [u] ++ List.replicate (A.length - (k + 1)) (Value.slice Option.none 0 0) := by
    rw [hq, show A.length - (k + 1) = q by omega, List.replicate_succ, List.set_append_right _ _ (by rw [h.len]; exact Nat.le_refl _), h.len, Nat.sub_self, List.set_cons_zero, List.append_assoc]
    rfl
  rw [e] at n1
  refine ⟨by simp [h.len], n1, fun i z xs hz hxs => ?_, (h.low.trans (hb.mono h.low.size)).setCell (p := ⟨w.heap.size, k, Option.none⟩) (Nat.le_refl _) _, by rw [World.size_setCell]; exact Nat.lt_of_lt_of_le h.size hb.size⟩
  have hK : Keeps (w.heap.size + 1) w2 (w2.setCell ⟨w.heap.size, k, Option.none⟩ u) := Keeps.set _ _ (by simp) _
  rcases Nat.lt_or_ge i us.length with hi | hi
  · rw [List.getElem?_append_left hi] at hz
    exact ((h.rows i z xs hz hxs).later hb).same (Nat.le_refl _) hK (by simp)
  · rw [List.getElem?_append_right hi] at hz
    have hi2 : i = k := by have := (List.getElem?_eq_some_iff.1 hz).1; simp at this; have := h.len; omega
    subst hi2
    rw [h.len, Nat.sub_self] at hz
    simp at hz
    subst hz
    rw [hx] at hxs
    injection hxs with hxs
    subst hxs
    exact hu.same h.size (fun a v hl hc => hK a v (Nat.le_trans h.size hl) hc) (by simp)
set_option maxHeartbeats 2000000 in
set_option maxRecDepth 100000 in
theorem toIntSS_is (A : List (List Int)) (hn : A.length ≤ 1048576) (hin : ∀ xs ∈ A, xs.length ≤ 1048576) (v : Value) (w : World) (hv : IIV w 0 v A) :
    Calls Try.prog 12 #[v] w fun e w' => ∃ v', e = .returned v' ∧ IIV w' w.heap.size v' A ∧ Below w.heap.size w w' := by
  have HV := Lib.hid hv
  have HI := Lib.hid hin
  obtain ⟨ao, cap, rfl⟩ := hv.shape
  obtain ⟨i0, hi, hz0, hz1, hz2⟩ := info_parts infoIS8
  clear hv hin
  go_enter Try.func12, Try.ntmps12
  go_wp2_with (refine wpList_make_full _ rfl _ _ 22 rfl w.heap.size 23 i0 _ 1 Try.underlying22 hi hz0 hz1 .i64 .i64 _ _ A.length rfl rfl rfl rfl ?c1 ?c2 ?c3 ?_)
  case c1 => first | omega | (rw [hz2]; omega)
  case c2 => unfold maxLen; omega
  try (case c3 => exact Nat.le_refl _)
  intro w1 hown hgrow
  rw [madeS] at hown
  have hbw : Below w.heap.size w w1 := (Below.refl _ w).grown hgrow (Nat.le_refl _) (fun k hk => by cases hk)
  have HC : Hid (Cpd w w1 A [] 0) := ⟨rfl, by simpa using hown, fun i u xs h => by simp at h, hbw, by obtain ⟨cur, hcur, _⟩ := own_block hown; exact lt_heap hcur⟩
  clear hown hgrow hbw hi hz0 hz1 hz2
  go_wp2
  go_loopw [4] (fun i wr => ∃ k : Nat, k ≤ A.length ∧ i = .int .i64 k ∧ Hid (∃ us, Cpd w wr A us k)) (fun i _ => A.length - (RowKit.intOf i).toNat)
  case atStart => exact ⟨0, by omega, rfl, ⟨[], HC.out⟩⟩
  case round =>
    obtain ⟨k, hk, rfl, ho⟩ := hrel
    obtain ⟨us, hc⟩ := ho.out
    clear HC
    by_cases hlt : k < A.length
    · have hltI : (k : Int) < (A.length : Int) := by omega
      obtain ⟨x, hx⟩ : ∃ x, A[k]? = some x := ⟨A[k], List.getElem?_eq_getElem hlt⟩
      obtain ⟨g, off, u, rfl, A0, hu⟩ := (HV.out.later hc.low).at hx
      have hxl := HI.out x (List.mem_of_getElem? hx)
      have UA := Lib.hid hu
      obtain ⟨pa, qa, rfl⟩ := hu.shape
      have C1 := Lib.hid hc
      have HX := Lib.hid hx
      clear hu ho hc hx
      go_wp2_with fail
      refine (toIntS_is x hxl _ _ UA.out).mono ?_
      rintro e w2 ⟨u2, rfl, hu2, hb2⟩
      have C2 := Lib.hid (C1.out.next HX.out hu2 hb2)
      have hs2 : (us ++ List.replicate (A.length - k) (Value.slice Option.none 0 0))[k]? = some (.slice Option.none 0 0) := by
        rw [List.getElem?_append_right (by rw [C1.out.len]; exact Nat.le_refl _), C1.out.len, List.getElem?_replicate, if_pos (by omega)]
      obtain ⟨c3, f3⟩ := iown_cell (ownB C1.out.own hb2) hs2
      obtain ⟨pb, qb, rfl⟩ := hu2.shape
      clear hu2 hb2 hs2 C1 UA A0
      go_wp2
      go_roundw
      case rel => exact ⟨k + 1, by omega, by go_num, ⟨_, C2.out⟩⟩
      case measure => simp [RowKit.intOf]; omega
    · have hw := hc.own
      rw [show A.length - k = 0 by omega, List.replicate_zero, List.append_nil] at hw
      have C1 := Lib.hid hc
      have HW := Lib.hid hw
      have hkA : k = A.length := by omega
      clear hw hc ho
      go_wp2
      go_ret
      refine ⟨_, rfl, ?_, C1.out.low⟩
      refine ⟨_, A.length, rfl, .inr ⟨w.heap.size, 0, rfl, Nat.le_refl _, C1.out.size, fun i xs hi => ?_⟩⟩
      have hil : i < us.length := by have h1 := (List.getElem?_eq_some_iff.1 hi).1; have h2 := C1.out.len; omega
      have hui : us[i]? = some us[i] := List.getElem?_eq_getElem hil
      exact ⟨us[i], by rw [Nat.zero_add]; exact own_cell HW.out hui, (C1.out.rows i _ xs hui hi).lower (by omega)⟩
/-- Three boxes of four cells. -/
structure B3 (w w' : World) (N : Nat) (x0 x1 x2 x3 y0 y1 y2 y3 z0 z1 z2 z3 : Value) (t u : TypeId) : Prop where
  p : w'.heap[N]? = some (.cells #[x0, x1, x2, x3] t (0, 0))
  q : w'.heap[N + 1]? = some (.cells #[y0, y1, y2, y3] u (0, 0))
  r : w'.heap[N + 2]? = some (.cells #[z0, z1, z2, z3] u (0, 0))
  b : Below w.heap.size w w'
  n : N = w.heap.size
theorem heap3b (w : World) (a b c : Obj) : (((w.alloc a).alloc b).alloc c).heap[w.heap.size]? = some a ∧ (((w.alloc a).alloc b).alloc c).heap[w.heap.size + 1]? = some b ∧ (((w.alloc a).alloc b).alloc c).heap[w.heap.size + 2]? = some c := heap3 w a b c
theorem B3.start (w : World) (x0 x1 x2 x3 y0 y1 y2 y3 z0 z1 z2 z3 : Value) (t u : TypeId) : B3 w (((w.alloc (.cells #[x0, x1, x2, x3] t)).alloc (.cells #[y0, y1, y2, y3] u)).alloc (.cells #[z0, z1, z2, z3] u)) w.heap.size x0 x1 x2 x3 y0 y1 y2 y3 z0 z1 z2 z3 t u := by
  obtain ⟨h1, h2, h3⟩ := heap3b w (.cells #[x0, x1, x2, x3] t) (.cells #[y0, y1, y2, y3] u) (.cells #[z0, z1, z2, z3] u)
  exact ⟨h1, h2, h3, ((alloc_below w _).alloc (by simp) _).alloc (by simp; omega) _, rfl⟩
theorem B3.later {w w1 w2 : World} {N : Nat} {x0 x1 x2 x3 y0 y1 y2 y3 z0 z1 z2 z3 : Value} {t u : TypeId} (h : B3 w w1 N x0 x1 x2 x3 y0 y1 y2 y3 z0 z1 z2 z3 t u) (hb : Below w1.heap.size w1 w2) : B3 w w2 N x0 x1 x2 x3 y0 y1 y2 y3 z0 z1 z2 z3 t u :=
  ⟨(hb.block _ (lt_heap h.p)).trans h.p, (hb.block _ (lt_heap h.q)).trans h.q, (hb.block _ (lt_heap h.r)).trans h.r, h.b.trans (hb.mono h.b.size), h.n⟩
theorem B3.set {w w1 : World} {N : Nat} {x0 x1 x2 x3 y0 y1 y2 y3 z0 z1 z2 z3 : Value} {t u : TypeId} (h : B3 w w1 N x0 x1 x2 x3 y0 y1 y2 y3 z0 z1 z2 z3 t u) (v : Value) :
    B3 w (w1.setCell ⟨N + 2, 0, Option.none⟩ v) N x0 x1 x2 x3 y0 y1 y2 y3 v z1 z2 z3 t u ∧ B3 w (w1.setCell ⟨N + 2, 1, Option.none⟩ v) N x0 x1 x2 x3 y0 y1 y2 y3 z0 v z2 z3 t u ∧ B3 w (w1.setCell ⟨N + 2, 2, Option.none⟩ v) N x0 x1 x2 x3 y0 y1 y2 y3 z0 z1 v z3 t u ∧ B3 w (w1.setCell ⟨N + 2, 3, Option.none⟩ v) N x0 x1 x2 x3 y0 y1 y2 y3 z0 z1 z2 v t u := by
  have e1 : ∀ o, (w1.setCell ⟨N + 2, o, Option.none⟩ v).heap[N]? = w1.heap[N]? := fun o => Below.heap_setCell _ _ _ _ (by simp)
  have e2 : ∀ o, (w1.setCell ⟨N + 2, o, Option.none⟩ v).heap[N + 1]? = w1.heap[N + 1]? := fun o => Below.heap_setCell _ _ _ _ (by simp)
  have e3 : ∀ o, Below w.heap.size w (w1.setCell ⟨N + 2, o, Option.none⟩ v) := fun o => h.b.setCell (p := ⟨N + 2, o, Option.none⟩) (by have := h.n; show w.heap.size ≤ N + 2; omega) _
  have e4 := fun o => Go.heap_setCell_same w1 (N + 2) o _ u v h.r
  exact ⟨⟨(e1 _).trans h.p, (e2 _).trans h.q, e4 0, e3 _, h.n⟩, ⟨(e1 _).trans h.p, (e2 _).trans h.q, e4 1, e3 _, h.n⟩, ⟨(e1 _).trans h.p, (e2 _).trans h.q, e4 2, e3 _, h.n⟩, ⟨(e1 _).trans h.p, (e2 _).trans h.q, e4 3, e3 _, h.n⟩⟩
theorem setSto4' {w2 W : World} {N : Nat} {x0 x1 x2 x3 y0 y1 y2 y3 : Value} {t : TypeId} (hN : w2.heap[N]? = some (.cells #[x0, x1, x2, x3] t (0, 0))) (hW : w2.setCells N 0 [y0, y1, y2, y3] = W) : W.heap[N]? = some (.cells #[y0, y1, y2, y3] t (0, 0)) := by
  subst hW
  have h1 := Go.heap_setCell_same _ _ 0 _ _ y0 hN
  have h2 := Go.heap_setCell_same _ _ 1 _ _ y1 h1
  have h3 := Go.heap_setCell_same _ _ 2 _ _ y2 h2
  have h4 := Go.heap_setCell_same _ _ 3 _ _ y3 h3
  exact h4
theorem keep2 (w : World) (N o : Nat) (v : Value) : Keeps (N + 3) w (w.setCell ⟨N + 2, o, Option.none⟩ v) := Keeps.set _ _ (by simp) _
set_option maxHeartbeats 1000000 in
set_option maxRecDepth 100000 in
theorem toSto_is (A : List (List Int)) (V O : List Int) (en : Int) (hl : A.length ≤ 1048576 ∧ (∀ xs ∈ A, xs.length ≤ 1048576) ∧ V.length ≤ 1048576 ∧ O.length ≤ 1048576) (va vv vo : Value) (w : World) (h : StoV w va vv vo A V O) :
    Calls Try.prog 6 #[.agg #[va, vv, vo, .int .i64 en]] w fun e w' => ∃ ua uv uo, e = .returned (.agg #[ua, uv, uo, .int .i64 en]) ∧ StoV w' ua uv uo A V O ∧ Below w.heap.size w w' := by
  have H := Lib.hid h
  have HL := Lib.hid hl
  obtain ⟨a1, c1, rfl⟩ := h.a.shape
  obtain ⟨a2, c2, rfl⟩ := h.v.shape
  obtain ⟨a3, c3, rfl⟩ := h.o.shape
  clear h hl
  have P := Lib.hid (B3.start w (.slice a1 A.length c1) (.slice a2 V.length c2) (.slice a3 O.length c3) (.int .i64 en) (.slice Option.none 0 0) (.slice Option.none 0 0) (.slice Option.none 0 0) (.int .i64 0) (.slice Option.none 0 0) (.slice Option.none 0 0) (.slice Option.none 0 0) (.int .i64 0) 25 28)
  go_enter Try.func6, Try.ntmps6
  go_wp2_with fail
  refine (toIntSS_is A HL.out.1 HL.out.2.1 _ _ (H.out.a.later P.out.b)).mono ?_
  rintro e w1 ⟨ua, rfl, hua, hb1⟩
  have P1 := Lib.hid (P.out.later hb1)
  have G1 : Hid (IIV w1 (w.heap.size + 3) ua A) := by have := hua; simp only [World.size_alloc] at this; exact this
  obtain ⟨x1, y1, rfl⟩ := hua.shape
  obtain ⟨_, f0, f1, f2, f3⟩ := blk4 P1.out.r
  obtain ⟨⟨k0, _⟩, _⟩ := blk4 P1.out.r
  have P1' := Lib.hid (P1.out.set (.slice x1 A.length y1)).1
  obtain ⟨⟨_, d1, _, _⟩, _⟩ := blk4 P1'.out.p
  have G1' : Hid (IIV (w1.setCell ⟨w.heap.size + 2, 0, Option.none⟩ (.slice x1 A.length y1)) (w.heap.size + 3) (.slice x1 A.length y1) A) := G1.out.same (Nat.le_refl _) (keep2 _ _ _ _) (by simp)
  clear hua hb1 P P1 G1
  go_wp2_with fail
  refine (toIntS_is V HL.out.2.2.1 _ _ (H.out.v.later P1'.out.b)).mono ?_
  rintro e w2 ⟨uv, rfl, huv, hb2⟩
  have P2 := Lib.hid (P1'.out.later hb2)
  have s2 : w.heap.size + 3 ≤ w1.heap.size := by have := lt_heap P1'.out.r; rw [World.size_setCell] at this; omega
  have G2 := Lib.hid (And.intro (G1'.out.later hb2) (huv.lower (lo' := w.heap.size + 3) (by rw [World.size_setCell]; exact s2)))
  obtain ⟨x2, y2, rfl⟩ := huv.shape
  clear f0 f1 f2 f3 k0 d1
  obtain ⟨_, f0, f1, f2, f3⟩ := blk4 P2.out.r
  obtain ⟨⟨_, k1, _, _⟩, _⟩ := blk4 P2.out.r
  have P2' := Lib.hid (P2.out.set (.slice x2 V.length y2)).2.1
  obtain ⟨⟨_, _, d2, _⟩, _⟩ := blk4 P2'.out.p
  have G2' : Hid (IIV (w2.setCell ⟨w.heap.size + 2, 1, Option.none⟩ (.slice x2 V.length y2)) (w.heap.size + 3) (.slice x1 A.length y1) A ∧ IV (w2.setCell ⟨w.heap.size + 2, 1, Option.none⟩ (.slice x2 V.length y2)) (w.heap.size + 3) (.slice x2 V.length y2) V) := ⟨G2.out.1.same (Nat.le_refl _) (keep2 _ _ _ _) (by simp), G2.out.2.same (Nat.le_refl _) (keep2 _ _ _ _) (by simp)⟩
  clear huv hb2 P1' P2 G2 G1' s2
  go_wp2_with fail
  refine (toIntS_is O HL.out.2.2.2 _ _ (H.out.o.later P2'.out.b)).mono ?_
  rintro e w3 ⟨uo, rfl, huo, hb3⟩
  have P3 := Lib.hid (P2'.out.later hb3)
  have s3 : w.heap.size + 3 ≤ w2.heap.size := by have := lt_heap P2'.out.r; rw [World.size_setCell] at this; omega
  have G3 := Lib.hid (And.intro (G2'.out.1.later hb3) (And.intro (G2'.out.2.later hb3) (huo.lower (lo' := w.heap.size + 3) (by rw [World.size_setCell]; exact s3))))
  obtain ⟨x3, y3, rfl⟩ := huo.shape
  clear f0 f1 f2 f3 k1 d2
  obtain ⟨_, f0, f1, f2, f3⟩ := blk4 P3.out.r
  obtain ⟨⟨_, _, k2, k3⟩, _⟩ := blk4 P3.out.r
  have P3' := Lib.hid (P3.out.set (.slice x3 O.length y3)).2.2.1
  have P4 := Lib.hid (P3'.out.set (.int .i64 en)).2.2.2
  obtain ⟨⟨_, _, _, d3⟩, _⟩ := blk4 P3'.out.p
  obtain ⟨⟨_, _, _, j3⟩, _, _, _, i3⟩ := blk4 P3'.out.r
  have TQ : Hid (((w3.setCell ⟨w.heap.size + 2, 2, Option.none⟩ (.slice x3 O.length y3)).setCell ⟨w.heap.size + 2, 3, Option.none⟩ (.int .i64 en)).there (w.heap.size + 1) 0 4) := blk_there P4.out.q (Nat.le_refl 4)
  have RG : Hid (((w3.setCell ⟨w.heap.size + 2, 2, Option.none⟩ (.slice x3 O.length y3)).setCell ⟨w.heap.size + 2, 3, Option.none⟩ (.int .i64 en)).rangeAt (w.heap.size + 2) 0 [.slice x1 A.length y1, .slice x2 V.length y2, .slice x3 O.length y3, .int .i64 en]) := blk_range P4.out.r
  clear huo hb3 P2' P3 G2' s3 P3'
  go_wp2_with (first | (refine wpList_load_mid rfl 28 _ rfl (w.heap.size + 2) 0 rfl _ _ RG.out Try.underlying28 rfl sizeSto ?_) | (refine store_abs rfl 28 _ _ rfl (w.heap.size + 1) 0 #[.slice x1 A.length y1, .slice x2 V.length y2, .slice x3 O.length y3, .int .i64 en] rfl rfl TQ.out sizeSto (one4 rfl rfl rfl rfl) ?_; intro W hW))
  have HQ := setSto4' P4.out.q hW
  have KK : Keeps (w.heap.size + 3) w3 W := by
    rw [← hW]
    exact ((keep2 _ _ _ _).trans (keep2 _ _ _ _)).trans (Keeps.sets _ (by omega) _ _)
  have hz : w3.heap.size ≤ W.heap.size := by rw [← hW, size_sets]; simp
  have hB : Below w.heap.size w W := by
    rw [← hW]; exact below_sets _ _ P4.out.b (by omega)
  have hlv := run_loadVar_mid W (w.heap.size + 1) 0 _ _ _ (blk_range HQ) Try.underlying28 rfl sizeSto
  refine bodyPost_ret (v := .agg #[.slice x1 A.length y1, .slice x2 V.length y2, .slice x3 O.length y3, .int .i64 en]) ?_ rfl ⟨_, _, _, rfl, ⟨G3.out.1.same (Nat.zero_le _) KK hz, G3.out.2.1.same (Nat.zero_le _) KK hz, G3.out.2.2.same (Nat.zero_le _) KK hz⟩, hB⟩
  simp [results, Try.results6, asAddr, hlv, Act.put]
  try rfl
end Go.Proofs.Ytcafpaahbbachab
/-
  Whether two rows of numbers are the same: l7SameInts, slices.Equal, slices.EqualFunc.
-/
namespace Go.Proofs.Ytcafpaahbbachab
open Go.RowKit Go.Lib
set_option linter.unusedSimpArgs false
set_option linter.unusedVariables false
theorem drewN_below (w : World) (n : Nat) : Below w.heap.size w (w.drewN n) := ⟨rfl, rfl, rfl, Nat.le_refl _, fun _ _ => rfl⟩

set_option maxHeartbeats 2000000 in
set_option maxRecDepth 100000 in
theorem l7SameInts_is (xs ys : List Int) (hx : xs.length ≤ 100000000) (hy : ys.length ≤ 100000000) (va vb : Value) (w : World) (ha : IV w 0 va xs) (hb : IV w 0 vb ys) :
    Calls Try.prog 11 #[va, vb] w fun e w' => e = .returned (.bool (decide (xs = ys))) ∧ Below w.heap.size w w' := by
  by_cases hl : xs.length = ys.length
  · have HA := Lib.hid ha
    have HB := Lib.hid hb
    obtain ⟨ao, ca, rfl⟩ := ha.shape
    obtain ⟨bo, cb, rfl⟩ := hb.shape
    rw [← hl] at HB ⊢
    have HL := Lib.hid hl
    clear ha hb hl hy
    go_enter Try.func11, Try.ntmps11
    go_wp2
    go_loopw [5] (fun i wr => ∃ k : Nat, k ≤ xs.length ∧ i = .int .i64 k ∧ Hid (xs.take k = ys.take k) ∧ Below w.heap.size w wr) (fun i _ => xs.length - (RowKit.intOf i).toNat)
    case atStart => exact ⟨0, by omega, rfl, (by show xs.take 0 = ys.take 0; simp), Below.refl _ _⟩
    case round =>
      obtain ⟨k, hk, rfl, htk, hbw⟩ := hrel
      by_cases hlt : k < xs.length
      · obtain ⟨x, hx1⟩ : ∃ x, xs[k]? = some x := ⟨xs[k], List.getElem?_eq_getElem hlt⟩
        obtain ⟨y, hy1⟩ : ∃ y, ys[k]? = some y := ⟨ys[k]'(by have := HL.out; omega), List.getElem?_eq_getElem _⟩
        obtain ⟨ga, oa, rfl, A0⟩ := (HA.out.later hbw).at hx1
        obtain ⟨gb, ob, rfl, B0⟩ := (HB.out.later hbw).at hy1
        have hltI : (k : Int) < (xs.length : Int) := by omega
        by_cases hxy : x = y
        · subst hxy
          have Htk : Hid (xs.take (k + 1) = ys.take (k + 1)) := show xs.take (k + 1) = ys.take (k + 1) by rw [List.take_add_one, List.take_add_one, hx1, hy1, htk.out]
          clear hx1 hy1 htk
          go_wp2_with fail
          go_quiet (fail)
          have hbw2 : ∀ n, Below w.heap.size w (wr.drewN n) := fun n => hbw.trans ((drewN_below wr n).mono hbw.size)
          clear A0 B0
          go_wp2
          go_roundw
          case rel => exact ⟨k + 1, by omega, by go_num, Htk.out, hbw2 _⟩
          case measure => simp [RowKit.intOf]; omega
        · have Hne : Hid (¬ xs = ys) := fun e => hxy (by subst e; rw [hx1] at hy1; injection hy1)
          have hxb : (x != y) = true := by simp [hxy]
          clear hx1 hy1 htk
          go_wp2_with fail
          go_quiet (fail)
          have hbw2 : ∀ n, Below w.heap.size w (wr.drewN n) := fun n => hbw.trans ((drewN_below wr n).mono hbw.size)
          clear A0 B0
          go_wp2
          go_ret
          exact ⟨(by rw [decide_eq_false Hne.out]; try rfl), hbw2 _⟩
      · have He : xs = ys := by
          have h := htk.out
          rw [List.take_of_length_le (by omega), List.take_of_length_le (by have := HL.out; omega)] at h
          exact h
        have HE := Lib.hid He
        clear He
        go_wp2
        go_ret
        exact ⟨(by rw [decide_eq_true HE.out]; try rfl), hbw⟩
  · obtain ⟨ao, ca, rfl⟩ := ha.shape
    obtain ⟨bo, cb, rfl⟩ := hb.shape
    have hlI : ((xs.length : Int) == (ys.length : Int)) = false := by simp; omega
    have Hne : Hid (¬ xs = ys) := fun e => hl (by rw [e])
    clear ha hb
    go_enter Try.func11, Try.ntmps11
    go_wp2
    go_ret
    exact ⟨(by rw [decide_eq_false Hne.out]; try rfl), Below.refl _ _⟩

set_option maxHeartbeats 2000000 in
set_option maxRecDepth 100000 in
theorem slicesEqual_is (xs ys : List Int) (hx : xs.length ≤ 100000000) (hy : ys.length ≤ 100000000) (va vb : Value) (w : World) (ha : IV w 0 va xs) (hb : IV w 0 vb ys) :
    Calls Try.prog 14 #[va, vb] w fun e w' => e = .returned (.bool (decide (xs = ys))) ∧ Below w.heap.size w w' := by
  by_cases hl : xs.length = ys.length
  · have HA := Lib.hid ha
    have HB := Lib.hid hb
    obtain ⟨ao, ca, rfl⟩ := ha.shape
    obtain ⟨bo, cb, rfl⟩ := hb.shape
    rw [← hl] at HB ⊢
    have HL := Lib.hid hl
    clear ha hb hl hy
    go_enter Try.func14, Try.ntmps14
    go_wp2
    go_loopw [13] (fun i wr => ∃ k : Nat, k ≤ xs.length ∧ i = .int .i64 k ∧ Hid (xs.take k = ys.take k) ∧ Below w.heap.size w wr) (fun i _ => xs.length - (RowKit.intOf i).toNat)
    case atStart => exact ⟨0, by omega, rfl, (by show xs.take 0 = ys.take 0; simp), Below.refl _ _⟩
    case round =>
      obtain ⟨k, hk, rfl, htk, hbw⟩ := hrel
      by_cases hlt : k < xs.length
      · obtain ⟨x, hx1⟩ : ∃ x, xs[k]? = some x := ⟨xs[k], List.getElem?_eq_getElem hlt⟩
        obtain ⟨y, hy1⟩ : ∃ y, ys[k]? = some y := ⟨ys[k]'(by have := HL.out; omega), List.getElem?_eq_getElem _⟩
        obtain ⟨ga, oa, rfl, A0⟩ := (HA.out.later hbw).at hx1
        obtain ⟨gb, ob, rfl, B0⟩ := (HB.out.later hbw).at hy1
        have hltI : (k : Int) < (xs.length : Int) := by omega
        by_cases hxy : x = y
        · subst hxy
          have Htk : Hid (xs.take (k + 1) = ys.take (k + 1)) := show xs.take (k + 1) = ys.take (k + 1) by rw [List.take_add_one, List.take_add_one, hx1, hy1, htk.out]
          clear hx1 hy1 htk
          go_wp2_with fail
          go_quiet (fail)
          have hbw2 : ∀ n, Below w.heap.size w (wr.drewN n) := fun n => hbw.trans ((drewN_below wr n).mono hbw.size)
          clear A0 B0
          go_wp2
          go_roundw
          case rel => exact ⟨k + 1, by omega, by go_num, Htk.out, hbw2 _⟩
          case measure => simp [RowKit.intOf]; omega
        · have Hne : Hid (¬ xs = ys) := fun e => hxy (by subst e; rw [hx1] at hy1; injection hy1)
          have hxb : (x != y) = true := by simp [hxy]
          clear hx1 hy1 htk
          go_wp2_with fail
          go_quiet (fail)
          have hbw2 : ∀ n, Below w.heap.size w (wr.drewN n) := fun n => hbw.trans ((drewN_below wr n).mono hbw.size)
          clear A0 B0
          go_wp2
          go_ret
          exact ⟨(by rw [decide_eq_false Hne.out]; try rfl), hbw2 _⟩
      · have He : xs = ys := by
          have h := htk.out
          rw [List.take_of_length_le (by omega), List.take_of_length_le (by have := HL.out; omega)] at h
          exact h
        have HE := Lib.hid He
        clear He
        go_wp2
        go_ret
        exact ⟨(by rw [decide_eq_true HE.out]; try rfl), hbw⟩
  · obtain ⟨ao, ca, rfl⟩ := ha.shape
    obtain ⟨bo, cb, rfl⟩ := hb.shape
    have hlI : ((xs.length : Int) == (ys.length : Int)) = false := by simp; omega
    have Hne : Hid (¬ xs = ys) := fun e => hl (by rw [e])
    clear ha hb
    go_enter Try.func14, Try.ntmps14
    go_wp2
    go_ret
    exact ⟨(by rw [decide_eq_false Hne.out]; try rfl), Below.refl _ _⟩
end Go.Proofs.Ytcafpaahbbachab
/-
  Whether two rows of rows are the same: slices.EqualFunc.
-/
namespace Go.Proofs.Ytcafpaahbbachab
open Go.RowKit Go.Lib
set_option linter.unusedSimpArgs false
set_option linter.unusedVariables false

set_option maxHeartbeats 2000000 in
set_option maxRecDepth 100000 in
theorem equalFunc_is (A D : List (List Int)) (hA : A.length ≤ 100000000) (hD : D.length ≤ 100000000) (hAi : ∀ xs ∈ A, xs.length ≤ 100000000) (hDi : ∀ xs ∈ D, xs.length ≤ 100000000) (va vb : Value) (w : World) (ha : IIV w 0 va A) (hb : IIV w 0 vb D) :
    Calls Try.prog 15 #[va, vb, .func (.func 14) #[] #[]] w fun e w' => e = .returned (.bool (decide (A = D))) ∧ Below w.heap.size w w' := by
  by_cases hl : A.length = D.length
  · have HA := Lib.hid ha
    have HB := Lib.hid hb
    have HAi := Lib.hid (And.intro hAi hDi)
    obtain ⟨ao, ca, rfl⟩ := ha.shape
    obtain ⟨bo, cb, rfl⟩ := hb.shape
    rw [← hl] at HB ⊢
    have HL := Lib.hid hl
    clear ha hb hl hD hAi hDi
    go_enter Try.func15, Try.ntmps15
    go_wp2
    go_loopw [17] (fun i wr => ∃ k : Nat, k ≤ A.length ∧ i = .int .i64 k ∧ Hid (A.take k = D.take k) ∧ Below w.heap.size w wr) (fun i _ => A.length - (RowKit.intOf i).toNat)
    case atStart => exact ⟨0, by omega, rfl, (by show A.take 0 = D.take 0; simp), Below.refl _ _⟩
    case round =>
      obtain ⟨k, hk, rfl, htk, hbw⟩ := hrel
      by_cases hlt : k < A.length
      · obtain ⟨x, hx1⟩ : ∃ x, A[k]? = some x := ⟨A[k], List.getElem?_eq_getElem hlt⟩
        obtain ⟨y, hy1⟩ : ∃ y, D[k]? = some y := ⟨D[k]'(by have := HL.out; omega), List.getElem?_eq_getElem _⟩
        obtain ⟨ga, oa, ua, rfl, A0, hua⟩ := (HA.out.later hbw).at hx1
        obtain ⟨gb, ob, ub, rfl, B0, hub⟩ := (HB.out.later hbw).at hy1
        have hltI : (k : Int) < (A.length : Int) := by omega
        have hxl := HAi.out.1 x (List.mem_of_getElem? hx1)
        have hyl := HAi.out.2 y (List.mem_of_getElem? hy1)
        have UA := Lib.hid hua
        have UB := Lib.hid hub
        obtain ⟨pa, qa, rfl⟩ := hua.shape
        obtain ⟨pb, qb, rfl⟩ := hub.shape
        by_cases hxy : x = y
        · have Htk : Hid (A.take (k + 1) = D.take (k + 1)) := show A.take (k + 1) = D.take (k + 1) by rw [List.take_add_one, List.take_add_one, hx1, hy1, htk.out, hxy]
          have Hdt : Hid (decide (x = y) = true) := decide_eq_true hxy
          clear hx1 hy1 htk hua hub hxy
          go_wp2_with fail
          refine (slicesEqual_is x y hxl hyl _ _ _ UA.out UB.out).mono ?_
          rintro e w1 ⟨rfl, hb1⟩
          rw [Hdt.out]
          have hbw2 := hbw.trans (hb1.mono hbw.size)
          clear A0 B0 hb1 UA UB
          go_wp2
          go_roundw
          case rel => exact ⟨k + 1, by omega, by go_num, Htk.out, hbw2⟩
          case measure => simp [RowKit.intOf]; omega
        · have Hne : Hid (¬ A = D) := fun e => hxy (by subst e; rw [hx1] at hy1; injection hy1)
          have Hdt : Hid (decide (x = y) = false) := decide_eq_false hxy
          clear hx1 hy1 htk hua hub hxy
          go_wp2_with fail
          refine (slicesEqual_is x y hxl hyl _ _ _ UA.out UB.out).mono ?_
          rintro e w1 ⟨rfl, hb1⟩
          rw [Hdt.out]
          have hbw2 := hbw.trans (hb1.mono hbw.size)
          clear A0 B0 hb1 UA UB
          go_wp2
          go_ret
          exact ⟨(by rw [decide_eq_false Hne.out]; try rfl), hbw2⟩
      · have He : A = D := by
          have h := htk.out
          rw [List.take_of_length_le (by omega), List.take_of_length_le (by have := HL.out; omega)] at h
          exact h
        have HE := Lib.hid He
        clear He
        go_wp2
        go_ret
        exact ⟨(by rw [decide_eq_true HE.out]; try rfl), hbw⟩
  · obtain ⟨ao, ca, rfl⟩ := ha.shape
    obtain ⟨bo, cb, rfl⟩ := hb.shape
    have hlI : ((A.length : Int) == (D.length : Int)) = false := by simp; omega
    have Hne : Hid (¬ A = D) := fun e => hl (by rw [e])
    clear ha hb
    go_enter Try.func15, Try.ntmps15
    go_wp2
    go_ret
    exact ⟨(by rw [decide_eq_false Hne.out]; try rfl), Below.refl _ _⟩
end Go.Proofs.Ytcafpaahbbachab
