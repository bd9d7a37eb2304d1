/-
  Programs: the contracts of szProg, toProg, eqProg, and of ArrAt, the specification's and the landed code's.
-/
import Derived.Test.YtkilmefpaojkfaaGreatAstArr
import Derived.Test.YtkilmefpaojkfaaGreatAstSzS
import Derived.Test.YtkilmefpaojkfaaGreatAstEqS
import Derived.Test.YtkilmefpaojkfaaGreatAstSameP
import Derived.Test.YtkilmefpaojkfaaGreatAstSize
namespace Go.Proofs.YtkilmefpaojkfaaGreat
open Go.RowKit Go.Lib
set_option linter.unusedSimpArgs false
set_option linter.unusedVariables false

set_option maxHeartbeats 1000000 in
theorem szProg_is (ts : List AR) (F : SF) (hts : ∀ t ∈ ts, t.s.size ≤ 9223372036854775807) (hM : ts.length ≤ 9223372036854775807) (hF : sok F) (hS : slen F ≤ 9223372036854775807) (va vb : Value) (w : World) (ha : AV w 0 va ts) (hb : SV w 0 F vb) :
    Calls Tryz.prog 21 #[.agg #[va, vb], .int .i64 1048576] w (Sz (asize ts + ssize F) 1048576 w) := by
  have H := Lib.hid (And.intro hts (And.intro hM (And.intro hF (And.intro hS (And.intro ha hb)))))
  obtain ⟨a1, c1, rfl⟩ := ha.shape
  obtain ⟨a2, c2, rfl⟩ := hb.shape
  clear ha hb hts hM hF hS
  go_enter Tryz.func21, Tryz.ntmps21
  go_wp2_with fail
  refine (szArrS_is ts H.out.1 H.out.2.1 _ _ (H.out.2.2.2.2.1.later (alloc_below _ _)) 1048576 (by omega) (by omega)).mono ?_
  rintro e w1 ⟨rfl, hb1⟩
  have B1 := below_alloc hb1
  have hc2 := box_cell (i := 1) hb1 rfl
  clear hb1
  by_cases h1 : (1048576 : Int) < (asize ts : Int)
  · rw [if_pos h1]
    go_wp2
    go_ret
    exact Sz.less (by omega) B1
  · rw [if_neg h1]
    have h2 : ¬ (1048576 : Int) - (asize ts : Int) < 0 := by omega
    go_wp2_with fail
    refine (szStmtS_is F H.out.2.2.1 H.out.2.2.2.1 _ _ (1048576 - (asize ts : Int)) (H.out.2.2.2.2.2.later B1) (by omega) (by omega)).mono ?_
    rintro e w2 ⟨rfl, hb2⟩
    have B2 := B1.trans (hb2.mono B1.size)
    clear hb2 hc2
    by_cases h3 : (1048576 : Int) - (asize ts : Int) < (ssize F : Int)
    · rw [if_pos h3]
      go_wp2
      go_ret
      exact Sz.less (by omega) B2
    · rw [if_neg h3]
      have h4 : ¬ (1048576 : Int) - (asize ts : Int) - (ssize F : Int) < 0 := by omega
      go_wp2
      go_ret
      exact Sz.more (by omega) (by omega) B2
theorem heap_last (v : World) (o : Obj) : (v.alloc o).heap[v.heap.size]? = some o := by show (v.heap.push o)[v.heap.size]? = _; simp
theorem blk2 {w : World} {b : Nat} {x y : Value} {t : TypeId} (h : w.heap[b]? = some (.cells #[x, y] t (0, 0))) :
    (w.cell? ⟨b, 0, Option.none⟩ = some x ∧ w.cell? ⟨b, 1, Option.none⟩ = some y) ∧ w.frozen? ⟨b, 0, Option.none⟩ = false ∧ w.frozen? ⟨b, 1, Option.none⟩ = false := by
  simp [World.cell?, World.frozen?, h]
theorem there_keep {w : World} {b c : Nat} {o : Obj} (hne : b ≠ c) (h : w.heap[b]? = some o) (i : Nat) (v : Value) : (w.setCell ⟨c, i, Option.none⟩ v).heap[b]? = some o := by rw [Below.heap_setCell _ _ _ _ hne]; exact h
theorem blk2_set {w : World} {b : Nat} {x y : Value} {t : TypeId} (v : Value) (h : w.heap[b]? = some (.cells #[x, y] t (0, 0))) : (w.setCell ⟨b, 0, Option.none⟩ v).heap[b]? = some (.cells #[v, y] t (0, 0)) := by
  have hlt := (Array.getElem?_eq_some_iff.1 h).1
  have h' : w.heap[b] = .cells #[x, y] t (0, 0) := by simpa [Array.getElem?_eq_getElem hlt] using h
  show (w.heap.modify b _)[b]? = _
  rw [Array.getElem?_eq_getElem (by simpa using hlt), Array.getElem_modify_self, h']
  rfl
theorem set3 {w w1 : World} {N : Nat} (hb : Below w.heap.size w w1) (hN : w.heap.size = N) (p x y : Value) : Below w.heap.size w (((w1.setCell ⟨N + 2, 1, Option.none⟩ p).setCell ⟨N + 1, 0, Option.none⟩ x).setCell ⟨N + 1, 1, Option.none⟩ y) ∧
    Keeps (w.heap.size + 3) w1 (((w1.setCell ⟨N + 2, 1, Option.none⟩ p).setCell ⟨N + 1, 0, Option.none⟩ x).setCell ⟨N + 1, 1, Option.none⟩ y) ∧ w1.heap.size ≤ (((w1.setCell ⟨N + 2, 1, Option.none⟩ p).setCell ⟨N + 1, 0, Option.none⟩ x).setCell ⟨N + 1, 1, Option.none⟩ y).heap.size := by
  subst hN
  exact ⟨((hb.setCell (p := ⟨w.heap.size + 2, 1, Option.none⟩) (by simp) _).setCell (p := ⟨w.heap.size + 1, 0, Option.none⟩) (by simp) _).setCell (p := ⟨w.heap.size + 1, 1, Option.none⟩) (by simp) _,
    ((Keeps.set _ _ (by simp) _).trans (Keeps.set _ _ (by simp) _)).trans (Keeps.set _ _ (by simp) _), by simp⟩
set_option maxHeartbeats 1000000 in
theorem toProg_is (ts : List AR) (F : SF) (hn : ts.length ≤ 1048576) (hS : ssize F ≤ 1048576) (va vb : Value) (w : World) (ha : AV w 0 va ts) (hb : SV w 0 F vb) :
    Calls Tryz.prog 22 #[.agg #[va, vb]] w fun e w' => ∃ ua ub, e = .returned (.agg #[ua, ub]) ∧ AV w' 0 ua ts ∧ SV w' 0 F ub ∧ Below w.heap.size w w' := by
  have H := Lib.hid (And.intro ha hb)
  obtain ⟨a1, c1, rfl⟩ := ha.shape
  obtain ⟨a2, c2, rfl⟩ := hb.shape
  clear ha hb
  go_enter Tryz.func22, Tryz.ntmps22
  go_wp2_with fail
  have hb3 := ((alloc_below w (.cells #[.slice a1 ts.length c1, .slice a2 (slen F) c2] 41)).alloc (by simp) (.cells #[.slice Option.none 0 0, .slice Option.none 0 0] 27)).alloc (by simp; omega) (.cells #[.slice Option.none 0 0, .slice Option.none 0 0] 27)
  obtain ⟨q0, q1, q2⟩ := heap3 w (.cells #[.slice a1 ts.length c1, .slice a2 (slen F) c2] 41) (.cells #[.slice Option.none 0 0, .slice Option.none 0 0] 27) (.cells #[.slice Option.none 0 0, .slice Option.none 0 0] 27)
  refine (toArrS_is ts hn _ _ (H.out.1.later hb3)).mono ?_
  rintro e w1 ⟨ua, rfl, hua, hb1⟩
  obtain ⟨x1, y1, rfl⟩ := hua.shape
  have r0 := (hb1.block _ (by simp only [World.size_alloc]; omega)).trans q0
  have r1 := (hb1.block _ (by simp)).trans q1
  have r2 := (hb1.block _ (by simp)).trans q2
  have B1 := hb3.trans (hb1.mono hb3.size)
  have hs1 := hb1.size
  simp only [World.size_alloc] at hs1 hua
  have t1 := blk2_set (.slice x1 ts.length y1) r2
  have t0 := there_keep (c := w.heap.size + 2) (by omega) r0 0 (.slice x1 ts.length y1)
  have t3 := there_keep (c := w.heap.size + 2) (by omega) r1 0 (.slice x1 ts.length y1)
  have B1' := B1.setCell (p := ⟨w.heap.size + 2, 0, Option.none⟩) (by simp) (.slice x1 ts.length y1)
  have hua' : AV (w1.setCell ⟨w.heap.size + 2, 0, Option.none⟩ (.slice x1 ts.length y1)) (w.heap.size + 3) (.slice x1 ts.length y1) ts := hua.same (Nat.le_refl _) (Keeps.set _ _ (by simp) _) (by simp)
  obtain ⟨⟨_, _⟩, f0, f1⟩ := blk2 r2
  obtain ⟨⟨_, d1⟩, _, _⟩ := blk2 t0
  obtain ⟨⟨g0, _⟩, _, _⟩ := blk2 r2
  have HA := Lib.hid hua'
  have HB := Lib.hid B1'
  have T := Lib.hid (And.intro t1 (And.intro t3 t0))
  clear hb1 hb3 hua hua' B1 B1' q0 q1 q2 r0 r1 r2 t0 t1 t3
  go_wp2_with fail
  refine (toStmtS_is F hS _ _ (H.out.2.later HB.out)).mono ?_
  rintro e w2 ⟨ub, rfl, hub, hb2⟩
  obtain ⟨x2, y2, rfl⟩ := hub.shape
  have s1 := (hb2.block _ (by simp; omega)).trans T.out.1
  have s3 := (hb2.block _ (by simp; omega)).trans T.out.2.1
  have B2 := HB.out.trans (hb2.mono HB.out.size)
  have hs2 := hb2.size
  simp only [World.size_setCell] at hs2 hub
  obtain ⟨⟨c0, c1⟩, f0, f1⟩ := blk2 s1
  obtain ⟨⟨e0, e1⟩, k0, k1⟩ := blk2 s3
  have A2 := Lib.hid (HA.out.later hb2)
  have B2' := Lib.hid B2
  have S2 := Lib.hid hub
  clear hb2 s1 s3 hub HA HB T B2
  go_wp2
  obtain ⟨hB, hK, hZ⟩ := set3 B2'.out rfl (.slice x2 (slen F) y2) (.slice x1 ts.length y1) (.slice x2 (slen F) y2)
  refine bodyPost_ret (v := .agg #[.slice x1 ts.length y1, .slice x2 (slen F) y2]) (by simp [results, Tryz.results22, go_sem, e0, e1]) rfl ⟨_, _, rfl, A2.out.same (Nat.zero_le _) (fun a v hl hc => hK a v hl hc) hZ, S2.out.same (Nat.zero_le _) (fun a v hl hc => hK a v (by omega) hc), hB⟩
theorem arrAt_cells {w : World} {v : Value} {ts : List AR} (h : AV w 0 v ts) (hne : ts ≠ []) : ∃ g off cap, v = .slice (some ⟨g, off, Option.none⟩) ts.length cap ∧ ∀ i t, ts[i]? = some t → w.cell? ⟨g, off + i * 2, Option.none⟩ = some (.string t.s) ∧ w.cell? ⟨g, off + i * 2 + 1, Option.none⟩ = some (.int .i64 t.n) := by
  obtain ⟨ao, cap, rfl, h⟩ := h
  rcases h with h | ⟨g, off, rfl, _, _, h3⟩
  · exact absurd h hne
  · exact ⟨g, off, cap, rfl, h3⟩
set_option maxHeartbeats 1000000 in
theorem eqProg_same (ts : List AR) (F : SF) (hn : ts.length ≤ 1048576) (hS : ssize F ≤ 1048576) (va vb ua ub : Value) (w : World) (ha : AV w 0 va ts) (hb : SV w 0 F vb) (ga : AV w 0 ua ts) (gb : SV w 0 F ub) :
    Calls Tryz.prog 23 #[.agg #[va, vb], .agg #[ua, ub]] w fun e w' => e = .returned (.bool true) ∧ Below w.heap.size w w' := by
  have H := Lib.hid (And.intro ha (And.intro hb (And.intro ga gb)))
  obtain ⟨a1, c1, rfl⟩ := ha.shape
  obtain ⟨a2, c2, rfl⟩ := hb.shape
  obtain ⟨a3, c3, rfl⟩ := ga.shape
  obtain ⟨a4, c4, rfl⟩ := gb.shape
  clear ha hb ga gb
  have hb2 : Below w.heap.size w ((w.alloc (.cells #[.slice a1 ts.length c1, .slice a2 (slen F) c2] 27)).alloc (.cells #[.slice a3 ts.length c3, .slice a4 (slen F) c4] 27)) := (alloc_below w _).alloc (by simp) _
  have p0 : ((w.alloc (.cells #[.slice a1 ts.length c1, .slice a2 (slen F) c2] 27)).alloc (.cells #[.slice a3 ts.length c3, .slice a4 (slen F) c4] 27)).heap[w.heap.size]? = some (.cells #[.slice a1 ts.length c1, .slice a2 (slen F) c2] 27 (0, 0)) := by
    rw [Below.heap_alloc _ _ _ (by simp)]; show (w.heap.push _)[w.heap.size]? = _; simp
  have p1 : ((w.alloc (.cells #[.slice a1 ts.length c1, .slice a2 (slen F) c2] 27)).alloc (.cells #[.slice a3 ts.length c3, .slice a4 (slen F) c4] 27)).heap[w.heap.size + 1]? = some (.cells #[.slice a3 ts.length c3, .slice a4 (slen F) c4] 27 (0, 0)) := by
    exact (congrArg (fun n => ((w.alloc (.cells #[.slice a1 ts.length c1, .slice a2 (slen F) c2] 27)).alloc (.cells #[.slice a3 ts.length c3, .slice a4 (slen F) c4] 27)).heap[n]?) (show w.heap.size + 1 = (w.alloc (.cells #[.slice a1 ts.length c1, .slice a2 (slen F) c2] 27)).heap.size by simp)).trans (heap_last _ _)
  have P := Lib.hid (And.intro p0 (And.intro p1 hb2))
  clear p0 p1 hb2
  go_enter Tryz.func23, Tryz.ntmps23
  go_wp2_with fail
  refine (eqArrS_same ts (by omega) _ _ _ (H.out.1.later P.out.2.2) (H.out.2.2.1.later P.out.2.2)).mono ?_
  rintro e w1 ⟨rfl, hb1⟩
  have B1 := P.out.2.2.trans (hb1.mono P.out.2.2.size)
  have c1' := (blk2 ((hb1.block _ (by simp only [World.size_alloc]; omega)).trans P.out.1)).1.2
  have c2' := (blk2 ((hb1.block _ (by simp only [World.size_alloc]; omega)).trans P.out.2.1)).1.2
  clear hb1 P
  go_wp2_with fail
  refine (eqStmtS_is F hS w1 _ _ (H.out.2.1.later B1) (H.out.2.2.2.later B1)).mono ?_
  rintro e w2 ⟨rfl, hb2⟩
  have B2 := B1.trans (hb2.mono B1.size)
  clear hb2 c1' c2'
  go_wp2
  go_ret
  exact ⟨rfl, B2⟩
/-- Where the first of that name stands; -1. -/
def arrAt (ts : List AR) (s : ByteArray) : Int := match ts.findIdx? (fun t => t.s == s) with | some i => i | Option.none => -1
def arrGo : List AR → Nat → ByteArray → Int
  | [], _, _ => -1
  | t :: ts, k, s => if t.s = s then k else arrGo ts (k + 1) s
set_option maxHeartbeats 1000000 in
theorem spec_ArrAt (ts : List AR) (hn : ts.length ≤ 1048576) (s : ByteArray) (va vb : Value) (hvb : vb.oneCell' = true) (w : World) (ha : AV w 0 va ts) :
    Calls Tryz.prog 14 #[.agg #[va, vb], .string s] w fun e w' => e = .returned (.int .i64 (arrGo ts 0 s)) ∧ Below w.heap.size w w' := by
  obtain ⟨ao, cap, rfl, hr⟩ := ha
  have Hr := Lib.hid hr
  clear hr
  have hc0 : (w.alloc (.cells #[.slice ao ts.length cap, vb] 27)).cell? ⟨w.heap.size, 0, Option.none⟩ = some (.slice ao ts.length cap) := box_cell (Below.refl _ _) rfl
  have B := Lib.hid (alloc_below w (.cells #[.slice ao ts.length cap, vb] 27))
  go_enter Tryz.func14, Tryz.ntmps14
  go_wp2
  go_loopw [5] (fun i wr => ∃ k : Nat, k ≤ ts.length ∧ i = .int .i64 k ∧ Hid (arrGo ts 0 s = arrGo (ts.drop k) k s) ∧ Hid (wr = w.alloc (.cells #[.slice ao ts.length cap, vb] 27))) (fun i _ => ts.length - (RowKit.intOf i).toNat)
  case atStart => exact ⟨0, by omega, rfl, (by show arrGo ts 0 s = arrGo (ts.drop 0) 0 s; rw [List.drop_zero]), rfl⟩
  case round =>
    obtain ⟨k, hk, rfl, hg, hw⟩ := hrel
    obtain rfl := hw.out
    by_cases hlt : k < ts.length
    · have hltI : (k : Int) < (ts.length : Int) := by omega
      obtain ⟨t, ht⟩ : ∃ t, ts[k]? = some t := ⟨ts[k], List.getElem?_eq_getElem hlt⟩
      rcases Hr.out with hr | ⟨g, off, rfl, _, gl, hc⟩
      · subst hr; simp at hlt
      have A0 := (B.out.cell (p := ⟨g, off + k * 2, Option.none⟩) gl).trans (hc k t ht).1
      have hd : Hid (ts.drop k = t :: ts.drop (k + 1)) := by
        show ts.drop k = t :: ts.drop (k + 1)
        rw [List.drop_eq_getElem_cons hlt]; congr 1; rw [List.getElem?_eq_getElem hlt] at ht; injection ht
      clear hc ht Hr
      by_cases he : t.s = s
      · have he2 : Hid (arrGo ts 0 s = (k : Int)) := by show arrGo ts 0 s = (k : Int); rw [hg.out, hd.out, arrGo, if_pos he]
        subst he
        go_wp2
        go_ret
        exact retI he2.out.symm B.out
      · have he2 : Hid (arrGo ts 0 s = arrGo (ts.drop (k + 1)) (k + 1) s) := by show arrGo ts 0 s = _; rw [hg.out, hd.out, arrGo, if_neg he]
        have hne := str_ne he
        go_wp2
        go_roundw
        case rel => exact ⟨k + 1, by omega, by go_num, he2.out, trivial⟩
        case measure => simp [RowKit.intOf]; omega
    · have he2 : Hid (arrGo ts 0 s = -1) := by show arrGo ts 0 s = -1; rw [hg.out, List.drop_of_length_le (by omega)]; rfl
      go_wp2
      go_ret
      exact retI he2.out.symm B.out
theorem newthere2 (w : World) (x y : Value) (t : TypeId) : (w.alloc (.cells #[x, y] t)).there w.heap.size 0 2 := blk_there (arr := #[x, y]) (t := t) (by show (w.heap.push _)[w.heap.size]? = _; simp) (Nat.le_refl 2)
end Go.Proofs.YtkilmefpaojkfaaGreat
