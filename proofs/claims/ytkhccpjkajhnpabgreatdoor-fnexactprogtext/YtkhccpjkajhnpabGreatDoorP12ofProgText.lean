/-
  Texts in one: AstSzS, AstProg, AstOpen, AstPOpen, ProgHas.
-/
import Derived.Test.YtkhccpjkajhnpabGreatDoorP00ofProgText
import Derived.Test.YtkhccpjkajhnpabGreatDoorP07ofProgText
import Derived.Test.YtkhccpjkajhnpabGreatDoorP01ofProgText
import Derived.Test.YtkhccpjkajhnpabGreatDoorP02ofProgText
import Derived.ProofKit
import Derived.OpenShut
import Derived.ShutString
import Derived.ChangeOld
import Derived.Deep.Slices
import Derived.Test.YtkhccpjkajhnpabGreatDoorP10ofProgText
import Derived.Test.YtkhccpjkajhnpabGreatDoorP04ofProgText
/-
  The contract of szStmtS.
-/
namespace Go.Proofs.YtkhccpjkajhnpabGreatDoor
open Go.RowKit Go.Lib
set_option linter.unusedSimpArgs false
set_option linter.unusedVariables false

set_option maxHeartbeats 2000000 in
set_option maxRecDepth 100000 in
theorem szStmtS_step (F : SF) (hF : sok F) (hM : slen F ≤ 9223372036854775807)
    (ih : ∀ l : SF, snodes l < snodes F → sok l → slen l ≤ 9223372036854775807 → ∀ (w : World) (v : Value) (left : Int), SV w 0 l v → 0 ≤ left → left ≤ 1048576 → Calls Tryz.prog 10 #[v, .int .i64 left] w (Sz (ssize l) left w))
    (w : World) (v : Value) (left : Int) (hv : SV w 0 F v) (h0 : 0 ≤ left) (h1 : left ≤ 1048576) :
    Calls Tryz.prog 10 #[v, .int .i64 left] w (Sz (ssize F) left w) := by
  have Hb : Hid (ssize F = slen F + sbulk F) := ssize_bulk F
  have hMI : (slen F : Int) ≤ 9223372036854775807 := by omega
  obtain ⟨b, o, ao, cap, rfl, hao, _, hin⟩ := hv
  have Hih := Lib.hid ih
  clear ih
  by_cases hbig : left < (slen F : Int)
  · have hb' : left - (slen F : Int) < 0 := by omega
    go_enter Tryz.func10, Tryz.ntmps10
    go_wp2
    all_goals first
      | omega
      | (go_ret; exact Sz.less (by rw [Hb.out]; omega) (Below.refl _ _))
  · have hb' : ¬ left - (slen F : Int) < 0 := by omega
    obtain ⟨L0, hL0⟩ : ∃ L0 : Nat, left = (L0 : Int) := ⟨left.toNat, by omega⟩
    subst hL0
    go_enter Tryz.func10, Tryz.ntmps10
    go_wp2
    go_loopw [1, 5] (fun x i wr => ∃ (R : SF) (k L : Nat), i = .int .i64 k ∧ x = .int .i64 (L : Int) ∧ Hid (k + slen R = slen F ∧ snodes R ≤ snodes F ∧ sok R ∧ L + slen F + sbulk F = L0 + sbulk R ∧ L ≤ L0) ∧ SIn w 0 R b (o + k * 19) ∧ Below w.heap.size w wr) (fun _ i _ => slen F - (RowKit.intOf i).toNat)
    case atStart => exact ⟨F, 0, L0 - slen F, rfl, val_intA (by omega), ⟨by omega, Nat.le_refl _, hF, by omega, by omega⟩, by simpa using hin, Below.refl _ _⟩
    case round =>
      obtain ⟨R, k, L, rfl, rfl, hr, hinR, hbw⟩ := hrel
      obtain ⟨e1, e2, e3, e4, e5⟩ := hr.out
      cases R with
      | nil =>
        have hk : ¬ (k : Int) < (slen F : Int) := by simp only [slen] at e1; omega
        simp only [sbulk] at e4
        go_wp2
        go_ret
        exact Sz.more (by rw [Hb.out]; omega) (by rw [Hb.out]; omega) hbw
      | node p q h l r =>
        have hlt : (k : Int) < (slen F : Int) := by simp only [slen] at e1; omega
        rcases hao with rfl | hnil
        · obtain ⟨hsc, hinr⟩ := SIn_node.1 (SIn_later hbw _ _ _ hinR)
          obtain ⟨v1, v2, v3, v4, u, hu, hul, hrg⟩ := hsc.range
          have Hrg := Lib.hid hrg
          have hinr0 := (SIn_node.1 hinR).2
          obtain ⟨f1, k1, k2, k3, k4, f2, f3, f4⟩ := e3
          simp only [snodes] at e2
          have Hl := Lib.hid (fun w v left => Hih.out l (by omega) f3 f2 w v left)
          have hL0 : (0 : Int) ≤ (L : Int) := by omega
          have hL1 : (L : Int) ≤ 1048576 := by omega
          have He : Hid (L + slen F + sbulk F = L0 + (hsize h + ssize l + sbulk r) ∧ snodes r ≤ snodes F ∧ sok r ∧ k + (slen r + 1) = slen F ∧ L ≤ L0) := ⟨e4, by omega, f4, e1, e5⟩
          clear hr hinR e1 e2 e4 e5 hinr hin hsc hrg
          obtain ⟨N, HN⟩ : ∃ N : Nat, Hid (hsize h + ssize l = N) := ⟨_, rfl⟩
          go_wp2_with (refine wpList_load_mid rfl 55 _ rfl b (o + k * 19) rfl _ _ Hrg.out Tryz.underlying55 rfl sizeLS ?_)
          refine (szStmt_of h l f1 k1 k2 k3 k4 Hl.out _ v1 v2 v3 v4 u (L : Int) hu hul hL0 hL1).mono ?_
          rw [HN.out]
          rintro e w1 ⟨rfl, hb1⟩
          have hbw1 := hbw.trans (hb1.mono hbw.size)
          have HL := Lib.hid hL1
          clear hb1 hbw Hrg hu hul k1 k2 k3 k4 f1 f2 f3 f4 Hl hL1
          by_cases hd : (L : Int) < (N : Int)
          · rw [if_pos hd]
            as_aux_lemma =>
            go_wp2
            go_ret
            refine Sz.less ?_ hbw1
            rw [Hb.out]; have := He.out.1; have := HN.out; omega
          · have hnn : ¬ (L : Int) - (N : Int) < 0 := by omega
            rw [if_neg (by omega)]
            obtain ⟨L', hL', HL'⟩ : ∃ L' : Nat, (L : Int) - (N : Int) = (L' : Int) ∧ Hid (L' + N = L) := ⟨L - N, by omega, (by show L - N + N = L; omega)⟩
            rw [hL'] at hnn ⊢
            clear hL' hd
            as_aux_lemma =>
            go_wp2
            go_roundw
            case rel =>
              refine ⟨r, k + 1, L', by go_num, rfl, ?_, by rw [show o + (k + 1) * 19 = o + k * 19 + 19 by omega]; exact hinr0, hbw1⟩
              obtain ⟨g1, g2, g3, g4, g5⟩ := He.out
              have := HL'.out; have := HN.out
              exact ⟨by omega, g2, g3, by omega, by omega⟩
            case measure => simp [RowKit.intOf]; omega
        · subst hnil; simp only [slen] at e1; omega
theorem szStmtS_all : ∀ (n : Nat) (F : SF), snodes F < n → sok F → slen F ≤ 9223372036854775807 → ∀ (w : World) (v : Value) (left : Int), SV w 0 F v → 0 ≤ left → left ≤ 1048576 → Calls Tryz.prog 10 #[v, .int .i64 left] w (Sz (ssize F) left w)
  | 0, _, h, _, _, _, _, _, _, _, _ => absurd h (by omega)
  | n + 1, F, h, hF, hM, w, v, left, hv, h0, h1 => szStmtS_step F hF hM (fun l hl hk hm w v left a b c => szStmtS_all n l (by omega) hk hm w v left a b c) w v left hv h0 h1
theorem szStmtS_is (F : SF) (hF : sok F) (hM : slen F ≤ 9223372036854775807) (w : World) (v : Value) (left : Int) (hv : SV w 0 F v) (h0 : 0 ≤ left) (h1 : left ≤ 1048576) :
    Calls Tryz.prog 10 #[v, .int .i64 left] w (Sz (ssize F) left w) := szStmtS_all _ F (Nat.lt_succ_self _) hF hM w v left hv h0 h1
end Go.Proofs.YtkhccpjkajhnpabGreatDoor
/-
  Programs: the contracts of szProg, toProg, eqProg, and of ArrAt, the specification's and the landed code's.
-/
namespace Go.Proofs.YtkhccpjkajhnpabGreatDoor
open Go.RowKit Go.Lib
set_option linter.unusedSimpArgs false
set_option linter.unusedVariables false

set_option maxHeartbeats 1000000 in
theorem szProg_is (ts : List AR) (F : SF) (hts : ∀ t ∈ ts, t.s.size ≤ 9223372036854775807) (hM : ts.length ≤ 9223372036854775807) (hF : sok F) (hS : slen F ≤ 9223372036854775807) (va vb : Value) (w : World) (ha : AV w 0 va ts) (hb : SV w 0 F vb) :
    Calls Tryz.prog 4 #[.agg #[va, vb], .int .i64 1048576] w (Sz (asize ts + ssize F) 1048576 w) := by
  have H := Lib.hid (And.intro hts (And.intro hM (And.intro hF (And.intro hS (And.intro ha hb)))))
  obtain ⟨a1, c1, rfl⟩ := ha.shape
  obtain ⟨a2, c2, rfl⟩ := hb.shape
  clear ha hb hts hM hF hS
  go_enter Tryz.func4, Tryz.ntmps4
  go_wp2_with fail
  refine (szArrS_is ts H.out.1 H.out.2.1 _ _ (H.out.2.2.2.2.1.later (alloc_below _ _)) 1048576 (by omega) (by omega)).mono ?_
  rintro e w1 ⟨rfl, hb1⟩
  have B1 := below_alloc hb1
  have hc2 := box_cell (i := 1) hb1 rfl
  clear hb1
  by_cases h1 : (1048576 : Int) < (asize ts : Int)
  · rw [if_pos h1]
    go_wp2
    go_ret
    exact Sz.less (by omega) B1
  · rw [if_neg h1]
    have h2 : ¬ (1048576 : Int) - (asize ts : Int) < 0 := by omega
    go_wp2_with fail
    refine (szStmtS_is F H.out.2.2.1 H.out.2.2.2.1 _ _ (1048576 - (asize ts : Int)) (H.out.2.2.2.2.2.later B1) (by omega) (by omega)).mono ?_
    rintro e w2 ⟨rfl, hb2⟩
    have B2 := B1.trans (hb2.mono B1.size)
    clear hb2 hc2
    by_cases h3 : (1048576 : Int) - (asize ts : Int) < (ssize F : Int)
    · rw [if_pos h3]
      go_wp2
      go_ret
      exact Sz.less (by omega) B2
    · rw [if_neg h3]
      have h4 : ¬ (1048576 : Int) - (asize ts : Int) - (ssize F : Int) < 0 := by omega
      go_wp2
      go_ret
      exact Sz.more (by omega) (by omega) B2
theorem heap_last (v : World) (o : Obj) : (v.alloc o).heap[v.heap.size]? = some o := by show (v.heap.push o)[v.heap.size]? = _; simp
theorem blk2 {w : World} {b : Nat} {x y : Value} {t : TypeId} (h : w.heap[b]? = some (.cells #[x, y] t (0, 0))) :
    (w.cell? ⟨b, 0, Option.none⟩ = some x ∧ w.cell? ⟨b, 1, Option.none⟩ = some y) ∧ w.frozen? ⟨b, 0, Option.none⟩ = false ∧ w.frozen? ⟨b, 1, Option.none⟩ = false := by
  simp [World.cell?, World.frozen?, h]
theorem there_keep {w : World} {b c : Nat} {o : Obj} (hne : b ≠ c) (h : w.heap[b]? = some o) (i : Nat) (v : Value) : (w.setCell ⟨c, i, Option.none⟩ v).heap[b]? = some o := by rw [Below.heap_setCell _ _ _ _ hne]; exact h
theorem blk2_set {w : World} {b : Nat} {x y : Value} {t : TypeId} (v : Value) (h : w.heap[b]? = some (.cells #[x, y] t (0, 0))) : (w.setCell ⟨b, 0, Option.none⟩ v).heap[b]? = some (.cells #[v, y] t (0, 0)) := by
  have hlt := (Array.getElem?_eq_some_iff.1 h).1
  have h' : w.heap[b] = .cells #[x, y] t (0, 0) := by simpa [Array.getElem?_eq_getElem hlt] using h
  show (w.heap.modify b _)[b]? = _
  rw [Array.getElem?_eq_getElem (by simpa using hlt), Array.getElem_modify_self, h']
  rfl
theorem set3 {w w1 : World} {N : Nat} (hb : Below w.heap.size w w1) (hN : w.heap.size = N) (p x y : Value) : Below w.heap.size w (((w1.setCell ⟨N + 2, 1, Option.none⟩ p).setCell ⟨N + 1, 0, Option.none⟩ x).setCell ⟨N + 1, 1, Option.none⟩ y) ∧
    Keeps (w.heap.size + 3) w1 (((w1.setCell ⟨N + 2, 1, Option.none⟩ p).setCell ⟨N + 1, 0, Option.none⟩ x).setCell ⟨N + 1, 1, Option.none⟩ y) ∧ w1.heap.size ≤ (((w1.setCell ⟨N + 2, 1, Option.none⟩ p).setCell ⟨N + 1, 0, Option.none⟩ x).setCell ⟨N + 1, 1, Option.none⟩ y).heap.size := by
  subst hN
  exact ⟨((hb.setCell (p := ⟨w.heap.size + 2, 1, Option.none⟩) (by simp) _).setCell (p := ⟨w.heap.size + 1, 0, Option.none⟩) (by simp) _).setCell (p := ⟨w.heap.size + 1, 1, Option.none⟩) (by simp) _,
    ((Keeps.set _ _ (by simp) _).trans (Keeps.set _ _ (by simp) _)).trans (Keeps.set _ _ (by simp) _), by simp⟩
set_option maxHeartbeats 1000000 in
theorem toProg_is (ts : List AR) (F : SF) (hn : ts.length ≤ 1048576) (hS : ssize F ≤ 1048576) (va vb : Value) (w : World) (ha : AV w 0 va ts) (hb : SV w 0 F vb) :
    Calls Tryz.prog 6 #[.agg #[va, vb]] w fun e w' => ∃ ua ub, e = .returned (.agg #[ua, ub]) ∧ AV w' 0 ua ts ∧ SV w' 0 F ub ∧ Below w.heap.size w w' := by
  have H := Lib.hid (And.intro ha hb)
  obtain ⟨a1, c1, rfl⟩ := ha.shape
  obtain ⟨a2, c2, rfl⟩ := hb.shape
  clear ha hb
  go_enter Tryz.func6, Tryz.ntmps6
  go_wp2_with fail
  have hb3 := ((alloc_below w (.cells #[.slice a1 ts.length c1, .slice a2 (slen F) c2] 25)).alloc (by simp) (.cells #[.slice Option.none 0 0, .slice Option.none 0 0] 31)).alloc (by simp; omega) (.cells #[.slice Option.none 0 0, .slice Option.none 0 0] 31)
  obtain ⟨q0, q1, q2⟩ := heap3 w (.cells #[.slice a1 ts.length c1, .slice a2 (slen F) c2] 25) (.cells #[.slice Option.none 0 0, .slice Option.none 0 0] 31) (.cells #[.slice Option.none 0 0, .slice Option.none 0 0] 31)
  refine (toArrS_is ts hn _ _ (H.out.1.later hb3)).mono ?_
  rintro e w1 ⟨ua, rfl, hua, hb1⟩
  obtain ⟨x1, y1, rfl⟩ := hua.shape
  have r0 := (hb1.block _ (by simp only [World.size_alloc]; omega)).trans q0
  have r1 := (hb1.block _ (by simp)).trans q1
  have r2 := (hb1.block _ (by simp)).trans q2
  have B1 := hb3.trans (hb1.mono hb3.size)
  have hs1 := hb1.size
  simp only [World.size_alloc] at hs1 hua
  have t1 := blk2_set (.slice x1 ts.length y1) r2
  have t0 := there_keep (c := w.heap.size + 2) (by omega) r0 0 (.slice x1 ts.length y1)
  have t3 := there_keep (c := w.heap.size + 2) (by omega) r1 0 (.slice x1 ts.length y1)
  have B1' := B1.setCell (p := ⟨w.heap.size + 2, 0, Option.none⟩) (by simp) (.slice x1 ts.length y1)
  have hua' : AV (w1.setCell ⟨w.heap.size + 2, 0, Option.none⟩ (.slice x1 ts.length y1)) (w.heap.size + 3) (.slice x1 ts.length y1) ts := hua.same (Nat.le_refl _) (Keeps.set _ _ (by simp) _) (by simp)
  obtain ⟨⟨_, _⟩, f0, f1⟩ := blk2 r2
  obtain ⟨⟨_, d1⟩, _, _⟩ := blk2 t0
  obtain ⟨⟨g0, _⟩, _, _⟩ := blk2 r2
  have HA := Lib.hid hua'
  have HB := Lib.hid B1'
  have T := Lib.hid (And.intro t1 (And.intro t3 t0))
  clear hb1 hb3 hua hua' B1 B1' q0 q1 q2 r0 r1 r2 t0 t1 t3
  go_wp2_with fail
  refine (toStmtS_is F hS _ _ (H.out.2.later HB.out)).mono ?_
  rintro e w2 ⟨ub, rfl, hub, hb2⟩
  obtain ⟨x2, y2, rfl⟩ := hub.shape
  have s1 := (hb2.block _ (by simp; omega)).trans T.out.1
  have s3 := (hb2.block _ (by simp; omega)).trans T.out.2.1
  have B2 := HB.out.trans (hb2.mono HB.out.size)
  have hs2 := hb2.size
  simp only [World.size_setCell] at hs2 hub
  obtain ⟨⟨c0, c1⟩, f0, f1⟩ := blk2 s1
  obtain ⟨⟨e0, e1⟩, k0, k1⟩ := blk2 s3
  have A2 := Lib.hid (HA.out.later hb2)
  have B2' := Lib.hid B2
  have S2 := Lib.hid hub
  clear hb2 s1 s3 hub HA HB T B2
  go_wp2
  obtain ⟨hB, hK, hZ⟩ := set3 B2'.out rfl (.slice x2 (slen F) y2) (.slice x1 ts.length y1) (.slice x2 (slen F) y2)
  refine bodyPost_ret (v := .agg #[.slice x1 ts.length y1, .slice x2 (slen F) y2]) (by simp [results, Tryz.results6, go_sem, e0, e1]) rfl ⟨_, _, rfl, A2.out.same (Nat.zero_le _) (fun a v hl hc => hK a v hl hc) hZ, S2.out.same (Nat.zero_le _) (fun a v hl hc => hK a v (by omega) hc), hB⟩
theorem arrAt_cells {w : World} {v : Value} {ts : List AR} (h : AV w 0 v ts) (hne : ts ≠ []) : ∃ g off cap, v = .slice (some ⟨g, off, Option.none⟩) ts.length cap ∧ ∀ i t, ts[i]? = some t → w.cell? ⟨g, off + i * 2, Option.none⟩ = some (.string t.s) ∧ w.cell? ⟨g, off + i * 2 + 1, Option.none⟩ = some (.int .i64 t.n) := by
  obtain ⟨ao, cap, rfl, h⟩ := h
  rcases h with h | ⟨g, off, rfl, _, _, h3⟩
  · exact absurd h hne
  · exact ⟨g, off, cap, rfl, h3⟩
set_option maxHeartbeats 1000000 in
theorem eqProg_same (ts : List AR) (F : SF) (hn : ts.length ≤ 1048576) (hS : ssize F ≤ 1048576) (va vb ua ub : Value) (w : World) (ha : AV w 0 va ts) (hb : SV w 0 F vb) (ga : AV w 0 ua ts) (gb : SV w 0 F ub) :
    Calls Tryz.prog 8 #[.agg #[va, vb], .agg #[ua, ub]] w fun e w' => e = .returned (.bool true) ∧ Below w.heap.size w w' := by
  have H := Lib.hid (And.intro ha (And.intro hb (And.intro ga gb)))
  obtain ⟨a1, c1, rfl⟩ := ha.shape
  obtain ⟨a2, c2, rfl⟩ := hb.shape
  obtain ⟨a3, c3, rfl⟩ := ga.shape
  obtain ⟨a4, c4, rfl⟩ := gb.shape
  clear ha hb ga gb
  have hb2 : Below w.heap.size w ((w.alloc (.cells #[.slice a1 ts.length c1, .slice a2 (slen F) c2] 31)).alloc (.cells #[.slice a3 ts.length c3, .slice a4 (slen F) c4] 31)) := (alloc_below w _).alloc (by simp) _
  have p0 : ((w.alloc (.cells #[.slice a1 ts.length c1, .slice a2 (slen F) c2] 31)).alloc (.cells #[.slice a3 ts.length c3, .slice a4 (slen F) c4] 31)).heap[w.heap.size]? = some (.cells #[.slice a1 ts.length c1, .slice a2 (slen F) c2] 31 (0, 0)) := by
    rw [Below.heap_alloc _ _ _ (by simp)]; show (w.heap.push _)[w.heap.size]? = _; simp
  have p1 : ((w.alloc (.cells #[.slice a1 ts.length c1, .slice a2 (slen F) c2] 31)).alloc (.cells #[.slice a3 ts.length c3, .slice a4 (slen F) c4] 31)).heap[w.heap.size + 1]? = some (.cells #[.slice a3 ts.length c3, .slice a4 (slen F) c4] 31 (0, 0)) := by
    exact (congrArg (fun n => ((w.alloc (.cells #[.slice a1 ts.length c1, .slice a2 (slen F) c2] 31)).alloc (.cells #[.slice a3 ts.length c3, .slice a4 (slen F) c4] 31)).heap[n]?) (show w.heap.size + 1 = (w.alloc (.cells #[.slice a1 ts.length c1, .slice a2 (slen F) c2] 31)).heap.size by simp)).trans (heap_last _ _)
  have P := Lib.hid (And.intro p0 (And.intro p1 hb2))
  clear p0 p1 hb2
  go_enter Tryz.func8, Tryz.ntmps8
  go_wp2_with fail
  refine (eqArrS_same ts (by omega) _ _ _ (H.out.1.later P.out.2.2) (H.out.2.2.1.later P.out.2.2)).mono ?_
  rintro e w1 ⟨rfl, hb1⟩
  have B1 := P.out.2.2.trans (hb1.mono P.out.2.2.size)
  have c1' := (blk2 ((hb1.block _ (by simp only [World.size_alloc]; omega)).trans P.out.1)).1.2
  have c2' := (blk2 ((hb1.block _ (by simp only [World.size_alloc]; omega)).trans P.out.2.1)).1.2
  clear hb1 P
  go_wp2_with fail
  refine (eqStmtS_is F hS w1 _ _ (H.out.2.1.later B1) (H.out.2.2.2.later B1)).mono ?_
  rintro e w2 ⟨rfl, hb2⟩
  have B2 := B1.trans (hb2.mono B1.size)
  clear hb2 c1' c2'
  go_wp2
  go_ret
  exact ⟨rfl, B2⟩
/-- Where the first of that name stands; -1. -/
def arrAt (ts : List AR) (s : ByteArray) : Int := match ts.findIdx? (fun t => t.s == s) with | some i => i | Option.none => -1
def arrGo : List AR → Nat → ByteArray → Int
  | [], _, _ => -1
  | t :: ts, k, s => if t.s = s then k else arrGo ts (k + 1) s
set_option maxHeartbeats 1000000 in
theorem spec_ArrAt (ts : List AR) (hn : ts.length ≤ 1048576) (s : ByteArray) (va vb : Value) (hvb : vb.oneCell' = true) (w : World) (ha : AV w 0 va ts) :
    Calls Tryz.prog 54 #[.agg #[va, vb], .string s] w fun e w' => e = .returned (.int .i64 (arrGo ts 0 s)) ∧ Below w.heap.size w w' := by
  obtain ⟨ao, cap, rfl, hr⟩ := ha
  have Hr := Lib.hid hr
  clear hr
  have hc0 : (w.alloc (.cells #[.slice ao ts.length cap, vb] 31)).cell? ⟨w.heap.size, 0, Option.none⟩ = some (.slice ao ts.length cap) := box_cell (Below.refl _ _) rfl
  have B := Lib.hid (alloc_below w (.cells #[.slice ao ts.length cap, vb] 31))
  go_enter Tryz.func54, Tryz.ntmps54
  go_wp2
  go_loopw [5] (fun i wr => ∃ k : Nat, k ≤ ts.length ∧ i = .int .i64 k ∧ Hid (arrGo ts 0 s = arrGo (ts.drop k) k s) ∧ Hid (wr = w.alloc (.cells #[.slice ao ts.length cap, vb] 31))) (fun i _ => ts.length - (RowKit.intOf i).toNat)
  case atStart => exact ⟨0, by omega, rfl, (by show arrGo ts 0 s = arrGo (ts.drop 0) 0 s; rw [List.drop_zero]), rfl⟩
  case round =>
    obtain ⟨k, hk, rfl, hg, hw⟩ := hrel
    obtain rfl := hw.out
    by_cases hlt : k < ts.length
    · have hltI : (k : Int) < (ts.length : Int) := by omega
      obtain ⟨t, ht⟩ : ∃ t, ts[k]? = some t := ⟨ts[k], List.getElem?_eq_getElem hlt⟩
      rcases Hr.out with hr | ⟨g, off, rfl, _, gl, hc⟩
      · subst hr; simp at hlt
      have A0 := (B.out.cell (p := ⟨g, off + k * 2, Option.none⟩) gl).trans (hc k t ht).1
      have hd : Hid (ts.drop k = t :: ts.drop (k + 1)) := by
        show ts.drop k = t :: ts.drop (k + 1)
        rw [List.drop_eq_getElem_cons hlt]; congr 1; rw [List.getElem?_eq_getElem hlt] at ht; injection ht
      clear hc ht Hr
      by_cases he : t.s = s
      · have he2 : Hid (arrGo ts 0 s = (k : Int)) := by show arrGo ts 0 s = (k : Int); rw [hg.out, hd.out, arrGo, if_pos he]
        subst he
        go_wp2
        go_ret
        exact retI he2.out.symm B.out
      · have he2 : Hid (arrGo ts 0 s = arrGo (ts.drop (k + 1)) (k + 1) s) := by show arrGo ts 0 s = _; rw [hg.out, hd.out, arrGo, if_neg he]
        have hne := str_ne he
        go_wp2
        go_roundw
        case rel => exact ⟨k + 1, by omega, by go_num, he2.out, trivial⟩
        case measure => simp [RowKit.intOf]; omega
    · have he2 : Hid (arrGo ts 0 s = -1) := by show arrGo ts 0 s = -1; rw [hg.out, List.drop_of_length_le (by omega)]; rfl
      go_wp2
      go_ret
      exact retI he2.out.symm B.out
theorem newthere2 (w : World) (x y : Value) (t : TypeId) : (w.alloc (.cells #[x, y] t)).there w.heap.size 0 2 := blk_there (arr := #[x, y]) (t := t) (by show (w.heap.push _)[w.heap.size]? = _; simp) (Nat.le_refl 2)
end Go.Proofs.YtkhccpjkajhnpabGreatDoor
/-
  Expressions and statements that came in, opened into trees.
-/
namespace Go.Proofs.YtkhccpjkajhnpabGreatDoor
open Go.ChangeShapes Go.WideShapes Go.ChangeAt Go.RowKit
set_option linter.unusedSimpArgs false
set_option linter.unusedVariables false

theorem cE : Tryz.prog.cellsOf 53 = 4 := by kernel_rfl
theorem cS : Tryz.prog.cellsOf 55 = 19 := by kernel_rfl
theorem cI : Tryz.prog.cellsOf 3 = 1 := by kernel_rfl
theorem cT : Tryz.prog.cellsOf 9 = 1 := by kernel_rfl
theorem cEs : Tryz.prog.cellsOf 51 = 1 := by kernel_rfl
theorem cSs : Tryz.prog.cellsOf 23 = 1 := by kernel_rfl
theorem part_get {cs xs : List Value} {o n : Nat} (h : (cs.drop o).take n = xs) : ∀ j u, xs[j]? = some u → cs[o + j]? = some u := by
  intro j u hj
  rw [← h, List.getElem?_take] at hj
  split at hj
  · rw [List.getElem?_drop] at hj; exact hj
  · cases hj
theorem build_exps {W : World} {b o len : Nat} (each : ∀ i, i < len → ∃ x : X, xok x ∧ XC W 0 x b (o + i * 4)) : ∀ d, d ≤ len → ∃ R : EF, elen R = d ∧ eok R ∧ EIn W 0 R b (o + (len - d) * 4)
  | 0, _ => ⟨.nil, rfl, trivial, trivial⟩
  | d + 1, hd => by
    obtain ⟨R, h1, h2, h3⟩ := build_exps each d (by omega)
    obtain ⟨x, k, hx⟩ := each (len - (d + 1)) (by omega)
    refine ⟨.node 0 0 x.h x.l R, by simp only [elen]; omega, ⟨k.1, k.2.1, k.2.2, h2⟩, EIn_node.2 ⟨hx, ?_⟩⟩
    rw [show o + (len - (d + 1)) * 4 + 4 = o + (len - d) * 4 by omega]; exact h3
theorem build_stmts {W : World} {b o len : Nat} (each : ∀ i, i < len → ∃ (h : SH) (l : SF), (h.s.size ≤ 9223372036854775807 ∧ xok h.x1 ∧ xok h.x2 ∧ xok h.x3 ∧ xok h.x4 ∧ slen l ≤ 9223372036854775807 ∧ sok l) ∧ SC W 0 h l b (o + i * 19)) : ∀ d, d ≤ len → ∃ R : SF, slen R = d ∧ sok R ∧ SIn W 0 R b (o + (len - d) * 19)
  | 0, _ => ⟨.nil, rfl, trivial, trivial⟩
  | d + 1, hd => by
    obtain ⟨R, h1, h2, h3⟩ := build_stmts each d (by omega)
    obtain ⟨h, l, ⟨k1, k2, k3, k4, k5, k6, k7⟩, hx⟩ := each (len - (d + 1)) (by omega)
    refine ⟨.node 0 0 h l R, by simp only [slen]; omega, ⟨k1, k2, k3, k4, k5, k6, k7, h2⟩, SIn_node.2 ⟨hx, ?_⟩⟩
    rw [show o + (len - (d + 1)) * 19 + 19 = o + (len - d) * 19 by omega]; exact h3
section
variable {H : Type} {enc : TypeId × Value → H} {W : World} {sp : Nat → Bool} {held : Bool}
set_option maxRecDepth 100000 in
theorem open_exp_of {fuel : Nat} {cs : List Value} {y : DataW H × List MemPlace}
    (ih : ∀ m, m < fuel → ∀ (cs : List Value) (x : DataW H × List MemPlace), DataW.trod enc Tryz.prog W 0 sp held m 51 cs = some x → ∃ (v : Value) (F : EF), cs = [v] ∧ eok F ∧ elen F ≤ 9223372036854775807 ∧ EV W 0 F v)
    (h : DataW.trod enc Tryz.prog W 0 sp held fuel 53 cs = some y) : ∃ (x : X) (v : Value), cs = xcells x v ∧ xok x ∧ EV W 0 x.l v := by
  obtain ⟨xs, m, hm, _, hlen, hxl, hf⟩ := DataW.trod_struct Tryz.underlying53 h
  rw [cE] at hlen
  match xs, hxl, cs, hlen with
  | [y0, y1, y2, y3], _, [v0, v1, v2, v3], _ =>
    have g0 := hf 0 _ rfl
    have g1 := hf 1 _ rfl
    have g2 := hf 2 _ rfl
    have g3 := hf 3 _ rfl
    simp [cI, cT, cEs] at g0 g1 g2 g3
    obtain ⟨k, e0, _, _⟩ := DataW.trod_int Tryz.underlying3 g0
    obtain ⟨n, e1, _, _⟩ := DataW.trod_int Tryz.underlying3 g1
    obtain ⟨s, e2, _, hs⟩ := DataW.trod_string Tryz.underlying9 g2
    obtain ⟨v, F, e3, k1, k2, k3⟩ := ih m (by omega) _ _ g3
    injection e0 with e0; injection e1 with e1; injection e2 with e2; injection e3 with e3
    subst e0; subst e1; subst e2; subst e3
    exact ⟨⟨⟨k, n, s⟩, F⟩, v3, rfl, ⟨by unfold maxLen at hs; show s.size ≤ _; omega, k2, k1⟩, k3⟩
theorem open_exps : ∀ (fuel : Nat) (cs : List Value) (x : DataW H × List MemPlace), DataW.trod enc Tryz.prog W 0 sp held fuel 51 cs = some x → ∃ (v : Value) (F : EF), cs = [v] ∧ eok F ∧ elen F ≤ 9223372036854775807 ∧ EV W 0 F v := by
  intro fuel
  induction fuel using Nat.strongRecOn with
  | _ fuel ih =>
    intro cs x h
    rcases DataW.trod_slice Tryz.underlying51 h with ⟨rfl, _⟩ | ⟨a, len, cap, elems, rest, n, hn, rfl, _, _, hl, hmx, hlen, hel, _, _⟩
    · exact ⟨_, .nil, rfl, trivial, by simp [elen], EV.nil _ _ _ _⟩
    · rw [cE] at hel
      have each : ∀ i, i < len → ∃ (cs' : List Value) (y : DataW H × List MemPlace), W.cells? 0 (a.add (i * 4)) 4 = some cs' ∧ DataW.trod enc Tryz.prog W 0 sp held n 53 cs' = some y := fun i hi => by
        have h1 := hel i hi
        rw [List.getElem?_eq_getElem (by omega), Option.bind_eq_some_iff] at h1
        obtain ⟨cs', h2, h3⟩ := h1
        exact ⟨cs', _, h2, h3⟩
      rcases Nat.eq_zero_or_pos len with h0 | h0
      · subst h0; exact ⟨_, .nil, rfl, trivial, by simp [elen], EV.nil _ _ _ _⟩
      · have each2 : ∀ i, i < len → ∃ (x : X) (v : Value), xok x ∧ EV W 0 x.l v ∧ ∀ j u, (xcells x v)[j]? = some u → W.cell? ((a.add (i * 4)).add j) = some u := fun i hi => by
          obtain ⟨cs', y, h1, h2⟩ := each i hi
          obtain ⟨_, hc, hcell⟩ := World.cells?_some h1
          obtain ⟨x, v, rfl, k1, k2⟩ := open_exp_of (fun m hm cs x h => ih m (by omega) cs x h) h2
          refine ⟨x, v, k1, k2, fun j u hj => ?_⟩
          have hj4 : j < 4 := by have := (List.getElem?_eq_some_iff.1 hj).1; simpa [xcells] using this
          rw [hcell j hj4]; exact hj
        obtain ⟨b, off, spot⟩ := a
        have hsp : spot = Option.none := by
          obtain ⟨x, v, _, _, hc⟩ := each2 0 h0
          have := World.cell?_spot (hc 0 _ rfl)
          simpa [Addr.add] using this
        subst hsp
        have e : ∀ i j, ((⟨b, off, Option.none⟩ : Addr).add i).add j = ⟨b, off + i + j, Option.none⟩ := fun i j => by rw [add_plain, add_plain]
        obtain ⟨R, r1, r2, r3⟩ := build_exps (W := W) (b := b) (o := off) (len := len) (fun i hi => by
          obtain ⟨x, v, k1, k2, hc⟩ := each2 i hi
          have c0 := hc 0 _ rfl; have c1 := hc 1 _ rfl; have c2 := hc 2 _ rfl; have c3 := hc 3 _ rfl
          rw [e] at c0 c1 c2 c3
          exact ⟨x, k1, c0, c1, c2, v, c3, k2⟩) len (Nat.le_refl _)
        rw [Nat.sub_self, Nat.zero_mul, Nat.add_zero] at r3
        refine ⟨_, R, rfl, r2, by unfold maxLen at hmx; omega, b, off, _, cap, by rw [r1], .inl rfl, Nat.zero_le _, r3⟩
theorem open_exp {fuel : Nat} {cs : List Value} {y : DataW H × List MemPlace} (h : DataW.trod enc Tryz.prog W 0 sp held fuel 53 cs = some y) : ∃ (x : X) (v : Value), cs = xcells x v ∧ xok x ∧ EV W 0 x.l v :=
  open_exp_of (fun m _ cs x h => open_exps m cs x h) h
set_option maxRecDepth 100000 in
theorem open_stmt_of {fuel : Nat} {cs : List Value} {y : DataW H × List MemPlace}
    (ih : ∀ m, m < fuel → ∀ (cs : List Value) (x : DataW H × List MemPlace), DataW.trod enc Tryz.prog W 0 sp held m 23 cs = some x → ∃ (v : Value) (F : SF), cs = [v] ∧ sok F ∧ slen F ≤ 9223372036854775807 ∧ SV W 0 F v)
    (h : DataW.trod enc Tryz.prog W 0 sp held fuel 55 cs = some y) : ∃ (h : SH) (l : SF) (v1 v2 v3 v4 v : Value), cs = scells h v1 v2 v3 v4 v ∧ (h.s.size ≤ 9223372036854775807 ∧ xok h.x1 ∧ xok h.x2 ∧ xok h.x3 ∧ xok h.x4 ∧ slen l ≤ 9223372036854775807 ∧ sok l) ∧ HV W 0 h v1 v2 v3 v4 ∧ SV W 0 l v := by
  obtain ⟨xs, m, hm, _, hlen, hxl, hf⟩ := DataW.trod_struct Tryz.underlying55 h
  rw [cS] at hlen
  match xs, hxl, cs, hlen with
  | [y0, y1, y2, y3, y4, y5, y6], _, [a0, a1, a2, a3, a4, a5, a6, a7, a8, a9, a10, a11, a12, a13, a14, a15, a16, a17, a18], _ =>
    have g0 := hf 0 _ rfl
    have g1 := hf 1 _ rfl
    have g2 := hf 2 _ rfl
    have g3 := hf 3 _ rfl
    have g4 := hf 4 _ rfl
    have g5 := hf 5 _ rfl
    have g6 := hf 6 _ rfl
    simp [cI, cT, cE, cSs] at g0 g1 g2 g3 g4 g5 g6
    obtain ⟨k, e0, _, _⟩ := DataW.trod_int Tryz.underlying3 g0
    obtain ⟨s, e1, _, hs⟩ := DataW.trod_string Tryz.underlying9 g1
    obtain ⟨x1, v1, e2, p1, q1⟩ := open_exp g2
    obtain ⟨x2, v2, e3, p2, q2⟩ := open_exp g3
    obtain ⟨x3, v3, e4, p3, q3⟩ := open_exp g4
    obtain ⟨x4, v4, e5, p4, q4⟩ := open_exp g5
    obtain ⟨v, F, e6, k1, k2, k3⟩ := ih m (by omega) _ _ g6
    refine ⟨⟨k, s, x1, x2, x3, x4⟩, F, v1, v2, v3, v4, v, ?_, ⟨by unfold maxLen at hs; show s.size ≤ _; omega, p1, p2, p3, p4, k2, k1⟩, ⟨q1, q2, q3, q4⟩, k3⟩
    show [a0] ++ ([a1] ++ ([a2, a3, a4, a5] ++ ([a6, a7, a8, a9] ++ ([a10, a11, a12, a13] ++ ([a14, a15, a16, a17] ++ [a18]))))) = _
    rw [e0, e1, e2, e3, e4, e5, e6]; rfl
theorem open_stmts : ∀ (fuel : Nat) (cs : List Value) (x : DataW H × List MemPlace), DataW.trod enc Tryz.prog W 0 sp held fuel 23 cs = some x → ∃ (v : Value) (F : SF), cs = [v] ∧ sok F ∧ slen F ≤ 9223372036854775807 ∧ SV W 0 F v := by
  intro fuel
  induction fuel using Nat.strongRecOn with
  | _ fuel ih =>
    intro cs x h
    rcases DataW.trod_slice Tryz.underlying23 h with ⟨rfl, _⟩ | ⟨a, len, cap, elems, rest, n, hn, rfl, _, _, hl, hmx, hlen, hel, _, _⟩
    · exact ⟨_, .nil, rfl, trivial, by simp [slen], SV.nil _ _ _ _⟩
    · rw [cS] at hel
      have each : ∀ i, i < len → ∃ (cs' : List Value) (y : DataW H × List MemPlace), W.cells? 0 (a.add (i * 19)) 19 = some cs' ∧ DataW.trod enc Tryz.prog W 0 sp held n 55 cs' = some y := fun i hi => by
        have h1 := hel i hi
        rw [List.getElem?_eq_getElem (by omega), Option.bind_eq_some_iff] at h1
        obtain ⟨cs', h2, h3⟩ := h1
        exact ⟨cs', _, h2, h3⟩
      rcases Nat.eq_zero_or_pos len with h0 | h0
      · subst h0; exact ⟨_, .nil, rfl, trivial, by simp [slen], SV.nil _ _ _ _⟩
      · have each2 : ∀ i, i < len → ∃ (h : SH) (l : SF) (v1 v2 v3 v4 v : Value), (h.s.size ≤ 9223372036854775807 ∧ xok h.x1 ∧ xok h.x2 ∧ xok h.x3 ∧ xok h.x4 ∧ slen l ≤ 9223372036854775807 ∧ sok l) ∧ HV W 0 h v1 v2 v3 v4 ∧ SV W 0 l v ∧ ∀ j u, (scells h v1 v2 v3 v4 v)[j]? = some u → W.cell? ((a.add (i * 19)).add j) = some u := fun i hi => by
          obtain ⟨cs', y, h1, h2⟩ := each i hi
          obtain ⟨_, hc, hcell⟩ := World.cells?_some h1
          obtain ⟨x, l, v1, v2, v3, v4, v, rfl, k1, k2, k3⟩ := open_stmt_of (fun m hm cs x h => ih m (by omega) cs x h) h2
          refine ⟨x, l, v1, v2, v3, v4, v, k1, k2, k3, fun j u hj => ?_⟩
          have hj4 : j < 19 := by have := (List.getElem?_eq_some_iff.1 hj).1; simpa [scells, xcells] using this
          rw [hcell j hj4]; exact hj
        obtain ⟨b, off, spot⟩ := a
        have hsp : spot = Option.none := by
          obtain ⟨x, l, v1, v2, v3, v4, v, _, _, _, hc⟩ := each2 0 h0
          have := World.cell?_spot (hc 0 _ rfl)
          simpa [Addr.add] using this
        subst hsp
        have e : ∀ i j, ((⟨b, off, Option.none⟩ : Addr).add i).add j = ⟨b, off + i + j, Option.none⟩ := fun i j => by rw [add_plain, add_plain]
        obtain ⟨R, r1, r2, r3⟩ := build_stmts (W := W) (b := b) (o := off) (len := len) (fun i hi => by
          obtain ⟨x, l, v1, v2, v3, v4, v, k1, k2, k3, hc⟩ := each2 i hi
          refine ⟨x, l, k1, ?_⟩
          have hr : SRow W 0 (.node 0 0 x l .nil) (scells x v1 v2 v3 v4 v) := SRow.one k2.e1 k2.e2 k2.e3 k2.e4 k3
          exact (SIn_node.1 (SRow.laid (g := b) (off + i * 19) hr (fun j u hj => by have := hc j u hj; rwa [e] at this))).1) len (Nat.le_refl _)
        rw [Nat.sub_self, Nat.zero_mul, Nat.add_zero] at r3
        refine ⟨_, R, rfl, r2, by unfold maxLen at hmx; omega, b, off, _, cap, by rw [r1], .inl rfl, Nat.zero_le _, r3⟩
theorem open_stmt {fuel : Nat} {cs : List Value} {y : DataW H × List MemPlace} (h : DataW.trod enc Tryz.prog W 0 sp held fuel 55 cs = some y) : ∃ (h : SH) (l : SF) (v1 v2 v3 v4 v : Value), cs = scells h v1 v2 v3 v4 v ∧ (h.s.size ≤ 9223372036854775807 ∧ xok h.x1 ∧ xok h.x2 ∧ xok h.x3 ∧ xok h.x4 ∧ slen l ≤ 9223372036854775807 ∧ sok l) ∧ HV W 0 h v1 v2 v3 v4 ∧ SV W 0 l v :=
  open_stmt_of (fun m _ cs x h => open_stmts m cs x h) h
end
end Go.Proofs.YtkhccpjkajhnpabGreatDoor
/-
  Programs that came in, opened; a program in two cells.
-/
namespace Go.Proofs.YtkhccpjkajhnpabGreatDoor
open Go.ChangeShapes Go.WideShapes Go.ChangeAt Go.RowKit
set_option linter.unusedSimpArgs false
set_option linter.unusedVariables false

theorem cA : Tryz.prog.cellsOf 49 = 2 := by kernel_rfl
theorem cP : Tryz.prog.cellsOf 25 = 2 := by kernel_rfl
theorem cAs : Tryz.prog.cellsOf 22 = 1 := by kernel_rfl
section
variable {H : Type} {enc : TypeId × Value → H} {W : World} {sp : Nat → Bool} {held : Bool}
set_option maxRecDepth 100000 in
theorem open_arr {fuel : Nat} {cs : List Value} {y : DataW H × List MemPlace} (h : DataW.trod enc Tryz.prog W 0 sp held fuel 49 cs = some y) : ∃ t : AR, cs = [.string t.s, .int .i64 t.n] ∧ t.s.size ≤ 9223372036854775807 := by
  obtain ⟨xs, m, hm, _, hlen, hxl, hf⟩ := DataW.trod_struct Tryz.underlying49 h
  rw [cA] at hlen
  match xs, hxl, cs, hlen with
  | [y0, y1], _, [v0, v1], _ =>
    have g0 := hf 0 _ rfl
    have g1 := hf 1 _ rfl
    simp [cI, cT] at g0 g1
    obtain ⟨s, e0, _, hs⟩ := DataW.trod_string Tryz.underlying9 g0
    obtain ⟨n, e1, _, _⟩ := DataW.trod_int Tryz.underlying3 g1
    injection e0 with e0; injection e1 with e1
    subst e0; subst e1
    exact ⟨⟨s, n⟩, rfl, by unfold maxLen at hs; show s.size ≤ _; omega⟩
theorem build_arrs {b o len : Nat} (each : ∀ i, i < len → ∃ t : AR, t.s.size ≤ 9223372036854775807 ∧ W.cell? ⟨b, o + i * 2, Option.none⟩ = some (.string t.s) ∧ W.cell? ⟨b, o + i * 2 + 1, Option.none⟩ = some (.int .i64 t.n)) :
    ∀ d, d ≤ len → ∃ R : List AR, R.length = d ∧ (∀ t ∈ R, t.s.size ≤ 9223372036854775807) ∧ ∀ i t, R[i]? = some t → W.cell? ⟨b, o + i * 2, Option.none⟩ = some (.string t.s) ∧ W.cell? ⟨b, o + i * 2 + 1, Option.none⟩ = some (.int .i64 t.n)
  | 0, _ => ⟨[], rfl, fun _ h => by simp at h, fun i t h => by simp at h⟩
  | d + 1, hd => by
    obtain ⟨R, h1, h2, h3⟩ := build_arrs each d (by omega)
    obtain ⟨t, k, c0, c1⟩ := each d (by omega)
    refine ⟨R ++ [t], by simp [h1], fun u hu => ?_, fun i u hu => ?_⟩
    · rcases List.mem_append.1 hu with hu | hu
      · exact h2 u hu
      · simp only [List.mem_cons, List.not_mem_nil, or_false] at hu; subst hu; exact k
    · rcases Nat.lt_or_ge i R.length with hi | hi
      · rw [List.getElem?_append_left hi] at hu; exact h3 i u hu
      · rw [List.getElem?_append_right hi] at hu
        have hi2 : i = d := by have := (List.getElem?_eq_some_iff.1 hu).1; simp at this; omega
        subst hi2
        rw [h1, Nat.sub_self] at hu
        simp at hu; subst hu; exact ⟨c0, c1⟩
theorem open_arrs {fuel : Nat} {cs : List Value} {x : DataW H × List MemPlace} (h : DataW.trod enc Tryz.prog W 0 sp held fuel 22 cs = some x) : ∃ (v : Value) (ts : List AR), cs = [v] ∧ (∀ t ∈ ts, t.s.size ≤ 9223372036854775807) ∧ ts.length ≤ 9223372036854775807 ∧ AV W 0 v ts := by
  rcases DataW.trod_slice Tryz.underlying22 h with ⟨rfl, _⟩ | ⟨a, len, cap, elems, rest, n, hn, rfl, _, _, hl, hmx, hlen, hel, _, _⟩
  · exact ⟨_, [], rfl, fun _ h => by simp at h, by simp, _, _, rfl, .inl rfl⟩
  · rw [cA] at hel
    have each : ∀ i, i < len → ∃ (cs' : List Value) (y : DataW H × List MemPlace), W.cells? 0 (a.add (i * 2)) 2 = some cs' ∧ DataW.trod enc Tryz.prog W 0 sp held n 49 cs' = some y := fun i hi => by
      have h1 := hel i hi
      rw [List.getElem?_eq_getElem (by omega), Option.bind_eq_some_iff] at h1
      obtain ⟨cs', h2, h3⟩ := h1
      exact ⟨cs', _, h2, h3⟩
    rcases Nat.eq_zero_or_pos len with h0 | h0
    · subst h0; exact ⟨_, [], rfl, fun _ h => by simp at h, by simp, _, _, rfl, .inl rfl⟩
    · have each2 : ∀ i, i < len → ∃ t : AR, t.s.size ≤ 9223372036854775807 ∧ ∀ j u, [Value.string t.s, .int .i64 t.n][j]? = some u → W.cell? ((a.add (i * 2)).add j) = some u := fun i hi => by
        obtain ⟨cs', y, h1, h2⟩ := each i hi
        obtain ⟨_, hc, hcell⟩ := World.cells?_some h1
        obtain ⟨t, rfl, k1⟩ := open_arr h2
        refine ⟨t, k1, fun j u hj => ?_⟩
        have hj4 : j < 2 := by have := (List.getElem?_eq_some_iff.1 hj).1; simpa using this
        rw [hcell j hj4]; exact hj
      obtain ⟨b, off, spot⟩ := a
      have hsp : spot = Option.none := by
        obtain ⟨x, _, hc⟩ := each2 0 h0
        have := World.cell?_spot (hc 0 _ rfl)
        simpa [Addr.add] using this
      subst hsp
      have e : ∀ i j, ((⟨b, off, Option.none⟩ : Addr).add i).add j = ⟨b, off + i + j, Option.none⟩ := fun i j => by rw [add_plain, add_plain]
      obtain ⟨R, r1, r2, r3⟩ := build_arrs (W := W) (b := b) (o := off) (len := len) (fun i hi => by
        obtain ⟨t, k1, hc⟩ := each2 i hi
        have c0 := hc 0 _ rfl; have c1 := hc 1 _ rfl
        rw [e] at c0 c1
        exact ⟨t, k1, c0, c1⟩) len (Nat.le_refl _)
      have hlt : b < W.heap.size := by
        obtain ⟨t, _, hc⟩ := each2 0 h0
        have := hc 0 _ rfl
        rw [e] at this
        exact lt_of_cellA this
      refine ⟨_, R, rfl, r2, by unfold maxLen at hmx; omega, _, cap, by rw [r1], .inr ⟨b, off, rfl, Nat.zero_le _, hlt, r3⟩⟩
set_option maxRecDepth 100000 in
theorem open_prog {fuel : Nat} {cs : List Value} {y : DataW H × List MemPlace} (h : DataW.trod enc Tryz.prog W 0 sp held fuel 25 cs = some y) :
    ∃ (ts : List AR) (F : SF) (va vb : Value), cs = [va, vb] ∧ (∀ t ∈ ts, t.s.size ≤ 9223372036854775807) ∧ ts.length ≤ 9223372036854775807 ∧ sok F ∧ slen F ≤ 9223372036854775807 ∧ AV W 0 va ts ∧ SV W 0 F vb := by
  obtain ⟨xs, m, hm, _, hlen, hxl, hf⟩ := DataW.trod_struct Tryz.underlying25 h
  rw [cP] at hlen
  match xs, hxl, cs, hlen with
  | [y0, y1], _, [v0, v1], _ =>
    have g0 := hf 0 _ rfl
    have g1 := hf 1 _ rfl
    simp [cAs, cSs] at g0 g1
    obtain ⟨va, ts, e0, k1, k2, k3⟩ := open_arrs g0
    obtain ⟨vb, F, e1, j1, j2, j3⟩ := open_stmts _ _ _ g1
    injection e0 with e0; injection e1 with e1
    subst e0; subst e1
    exact ⟨ts, F, v0, v1, rfl, k1, k2, j1, j2, k3, j3⟩
end
theorem sizeLP : (Tryz.prog.info? 25).map (·.size) = some 2 := by kernel_rfl
theorem sizeIP : (Tryz.prog.info? 31).map (·.size) = some 2 := by kernel_rfl
/-- A program in two cells of a block. -/
structure Pt (w0 w : World) (n : Nat) (va vb : Value) (ts : List AR) (F : SF) : Prop where
  rg : w.rangeAt n 0 [va, vb]
  av : AV w 0 va ts
  sv : SV w 0 F vb
  low : Below w0.heap.size w0 w
theorem Pt.later {w0 w w' : World} {n : Nat} {va vb : Value} {ts : List AR} {F : SF} (h : Pt w0 w n va vb ts F) (hb : Below w.heap.size w w') : Pt w0 w' n va vb ts F :=
  ⟨rangeAt_later h.rg hb, h.av.later hb, h.sv.later hb, h.low.trans (hb.mono h.low.size)⟩
theorem Pt.start {w : World} (t : TypeId) {va vb : Value} {ts : List AR} {F : SF} (ha : AV w 0 va ts) (hb : SV w 0 F vb) : Pt w (w.alloc (.cells #[va, vb] t)) w.heap.size va vb ts F :=
  ⟨blk_range (arr := #[va, vb]) (heap_last _ _), ha.later (alloc_below _ _), hb.later (alloc_below _ _), alloc_below _ _⟩
theorem newblk2 {w W : World} {t : TypeId} {x y : Value} (a b : Value) (hW : (w.alloc (.cells #[x, y] t)).setCells w.heap.size 0 [a, b] = W) : W.rangeAt w.heap.size 0 [a, b] ∧ Below w.heap.size w W := by
  subst hW
  exact ⟨World.rangeAt_setCells_same _ _ _ _ (blk_there (arr := #[x, y]) (t := t) (heap_last _ _) (Nat.le_refl 2)), below_sets _ _ (alloc_below _ _) (Nat.le_refl _)⟩
theorem oneP {a b : Value} (ha : a.oneCell' = true) (hb : b.oneCell' = true) : (#[a, b] : Array Value).all (·.oneCell') = true :=
  all_oneCell_toArray (cs := [a, b]) (fun v hv => by
    simp only [List.mem_cons, List.not_mem_nil, or_false] at hv
    rcases hv with rfl | rfl <;> assumption)
theorem AV.isOne {w : World} {lo : Nat} {v : Value} {ts : List AR} (h : AV w lo v ts) : v.oneCell' = true := by obtain ⟨a, c, rfl⟩ := h.shape; rfl
end Go.Proofs.YtkhccpjkajhnpabGreatDoor
/-
  The contracts of the specification's l2Has, l4Apart, l4Arrs.
-/
namespace Go.Proofs.YtkhccpjkajhnpabGreatDoor
open Go.RowKit Go.Lib
set_option linter.unusedSimpArgs false
set_option linter.unusedVariables false

theorem all_drop {α : Type} {p : α → Bool} {l : List α} {k : Nat} {x : α} (hx : l[k]? = some x) : (l.drop k).all p = (p x && (l.drop (k + 1)).all p) := by
  have hlt : k < l.length := (List.getElem?_eq_some_iff.1 hx).1
  rw [List.drop_eq_getElem_cons hlt, List.all_cons]
  have e : l[k] = x := (List.getElem?_eq_some_iff.1 hx).2
  rw [e]
theorem and_t {a b r : Bool} (h : (a && b) = r) (ha : a = true) : b = r := by rw [ha, Bool.true_and] at h; exact h
theorem and_f {a b r : Bool} (h : (a && b) = r) (ha : a = false) : r = false := by rw [ha, Bool.false_and] at h; exact h.symm
theorem all_end {α : Type} {p : α → Bool} {l : List α} {k : Nat} {r : Bool} (h : (l.drop k).all p = r) (hk : l.length ≤ k) : r = true := by rw [List.drop_of_length_le hk] at h; exact h.symm
theorem not_false {b : Bool} (h : (!b) = false) : b = true := by cases b <;> simp_all
theorem not_true' {b : Bool} (h : (!b) = true) : b = false := by cases b <;> simp_all
theorem TV.cells {w : World} {v : Value} {ns : List ByteArray} (h : TV w 0 v ns) {k : Nat} {x : ByteArray} (hx : ns[k]? = some x) : ∃ g off c, v = .slice (some ⟨g, off, Option.none⟩) ns.length c ∧ w.cell? ⟨g, off + k, Option.none⟩ = some (.string x) := by
  obtain ⟨ao, cap, rfl, h⟩ := h
  rcases h with h | ⟨g, off, rfl, _, _, h⟩
  · subst h; simp at hx
  · exact ⟨g, off, cap, rfl, h k x hx⟩
set_option maxHeartbeats 1000000 in
theorem has_is (ns : List ByteArray) (hn : ns.length ≤ 10000000) (s : ByteArray) (b : Bool) (hb : ns.all (fun t => !decide (t = s)) = !b) (v : Value) (w : World) (hv : TV w 0 v ns) :
    Calls Tryz.prog 56 #[v, .string s] w fun e w' => e = .returned (.bool b) ∧ w = w' := by
  have Hv := Lib.hid hv
  obtain ⟨ao, cap, rfl⟩ := hv.shape
  have Hb : Hid ((ns.drop 0).all (fun t => !decide (t = s)) = !b) := by rw [List.drop_zero]; exact hb
  clear hv hb
  go_enter Tryz.func56, Tryz.ntmps56
  go_wp2
  go_loop [5] (fun i => ∃ k : Nat, k ≤ ns.length ∧ i = .int .i64 k ∧ Hid ((ns.drop k).all (fun t => !decide (t = s)) = !b)) (fun i => ns.length - (RowKit.intOf i).toNat)
  case atStart => exact ⟨0, by omega, rfl, Hb⟩
  case round =>
    obtain ⟨k, hk, rfl, hall⟩ := hrel
    clear Hb
    by_cases hlt : k < ns.length
    · have hltI : (k : Int) < (ns.length : Int) := by omega
      obtain ⟨x, hx⟩ : ∃ x, ns[k]? = some x := ⟨ns[k], List.getElem?_eq_getElem hlt⟩
      obtain ⟨g, off, c, hvv, hcell⟩ := Hv.out.cells hx
      injection hvv with e1 e2 e3
      subst e1
      have hd : Hid ((!decide (x = s) && (ns.drop (k + 1)).all (fun t => !decide (t = s))) = !b) := by rw [← all_drop (p := fun t => !decide (t = s)) hx]; exact hall.out
      clear hx hall Hv e2 e3
      by_cases he : x = s
      · have h1 := Lib.hid (not_false (and_f hd.out (by rw [decide_eq_true he]; rfl)))
        subst he
        clear hd
        go_wp2
        go_ret
        exact ⟨ret_bool h1.out.symm, rfl⟩
      · have h1 := Lib.hid (and_t hd.out (by rw [decide_eq_false he]; rfl))
        have hne := str_ne he
        clear hd
        go_wp2
        go_round
        case rel => exact ⟨k + 1, by omega, by go_num, h1⟩
        case measure => simp [RowKit.intOf]; omega
    · have h1 := Lib.hid (not_true' (all_end hall.out (by omega)))
      go_wp2
      go_ret
      exact ⟨ret_bool h1.out.symm, rfl⟩
/-- Two lists have nothing in common. -/
def apart (a b : List ByteArray) : Bool := a.all (fun s => b.all (fun t => !decide (t = s)))
set_option maxHeartbeats 1000000 in
theorem l4Apart_is (xs bs : List ByteArray) (hna : xs.length ≤ 10000000) (hnb : bs.length ≤ 10000000) (r : Bool) (hr : apart xs bs = r) (va vb : Value) (w : World) (ha : TV w 0 va xs) (hb : TV w 0 vb bs) :
    Calls Tryz.prog 30 #[va, vb] w fun e w' => e = .returned (.bool r) ∧ w = w' := by
  have Hv := Lib.hid ha
  have Hw := Lib.hid hb
  obtain ⟨ao, cap, rfl⟩ := ha.shape
  obtain ⟨bo, bcap, rfl⟩ := hb.shape
  have Hr : Hid ((xs.drop 0).all (fun s => bs.all (fun t => !decide (t = s))) = r) := by rw [List.drop_zero]; exact hr
  clear ha hb hr
  go_enter Tryz.func30, Tryz.ntmps30
  go_wp2
  go_loop [5] (fun i => ∃ k : Nat, k ≤ xs.length ∧ i = .int .i64 k ∧ Hid ((xs.drop k).all (fun s => bs.all (fun t => !decide (t = s))) = r)) (fun i => xs.length - (RowKit.intOf i).toNat)
  case atStart => exact ⟨0, by omega, rfl, Hr⟩
  case round =>
    obtain ⟨k, hk, rfl, hall⟩ := hrel
    clear Hr
    by_cases hlt : k < xs.length
    · have hltI : (k : Int) < (xs.length : Int) := by omega
      obtain ⟨x, hx⟩ : ∃ x, xs[k]? = some x := ⟨xs[k], List.getElem?_eq_getElem hlt⟩
      obtain ⟨g, off, c, hvv, hcell⟩ := Hv.out.cells hx
      injection hvv with e1 e2 e3
      subst e1
      have hd : Hid ((bs.all (fun t => !decide (t = x)) && (xs.drop (k + 1)).all (fun s => bs.all (fun t => !decide (t = s)))) = r) := by rw [← all_drop (p := fun s => bs.all (fun t => !decide (t = s))) hx]; exact hall.out
      clear hx hall Hv e2 e3
      cases hq : bs.all (fun t => !decide (t = x)) with
      | false =>
        have h1 := Lib.hid (and_f hd.out hq)
        have C := Lib.hid (has_is bs hnb x true (by rw [hq]; rfl) _ w Hw.out)
        clear hd hq
        go_wp2_with fail
        refine C.out.mono ?_
        rintro e w' ⟨rfl, rfl⟩
        go_wp2
        go_ret
        exact ⟨ret_bool h1.out.symm, rfl⟩
      | true =>
        have h1 := Lib.hid (and_t hd.out hq)
        have C := Lib.hid (has_is bs hnb x false (by rw [hq]; rfl) _ w Hw.out)
        clear hd hq
        go_wp2_with fail
        refine C.out.mono ?_
        rintro e w' ⟨rfl, rfl⟩
        go_wp2
        go_round
        case rel => exact ⟨k + 1, by omega, by go_num, h1⟩
        case measure => simp [RowKit.intOf]; omega
    · have h1 := Lib.hid (all_end hall.out (by omega))
      go_wp2
      go_ret
      exact ⟨ret_bool h1.out.symm, rfl⟩
/-- Each of these is an array. -/
def allArrs (ts : List AR) (ns : List ByteArray) : Bool := ns.all (fun s => decide (0 ≤ arrGo ts 0 s))
set_option maxHeartbeats 2000000 in
set_option maxRecDepth 100000 in
theorem l4Arrs_is (ts : List AR) (hn : ts.length ≤ 1048576) (ns : List ByteArray) (hnn : ns.length ≤ 10000000) (r : Bool) (hr : allArrs ts ns = r) (va vb vl : Value) (hvb : vb.oneCell' = true) (w : World) (ha : AV w 0 va ts) (hl : TV w 0 vl ns) :
    Calls Tryz.prog 28 #[.agg #[va, vb], vl] w fun e w' => e = .returned (.bool r) ∧ Below w.heap.size w w' := by
  have Hv := Lib.hid hl
  have Ha := Lib.hid ha
  obtain ⟨ao, cap, rfl⟩ := ha.shape
  obtain ⟨lo, lcap, rfl⟩ := hl.shape
  have B := Lib.hid (alloc_below w (.cells #[.slice ao ts.length cap, vb] 31))
  have R : Hid ((w.alloc (.cells #[.slice ao ts.length cap, vb] 31)).rangeAt w.heap.size 0 [.slice ao ts.length cap, vb]) := blk_range (arr := #[.slice ao ts.length cap, vb]) (heap_last _ _)
  have Hr : Hid ((ns.drop 0).all (fun s => decide (0 ≤ arrGo ts 0 s)) = r) := by rw [List.drop_zero]; exact hr
  clear ha hl hr
  go_enter Tryz.func28, Tryz.ntmps28
  go_wp2
  go_loopw [5] (fun i wr => ∃ k : Nat, k ≤ ns.length ∧ i = .int .i64 k ∧ Hid ((ns.drop k).all (fun s => decide (0 ≤ arrGo ts 0 s)) = r) ∧ Hid (Below w.heap.size w wr) ∧ Hid (wr.rangeAt w.heap.size 0 [.slice ao ts.length cap, vb])) (fun i _ => ns.length - (RowKit.intOf i).toNat)
  case atStart => exact ⟨0, by omega, rfl, Hr, B, R⟩
  case round =>
    obtain ⟨k, hk, rfl, hall, hbr, hrg⟩ := hrel
    clear Hr B R
    by_cases hlt : k < ns.length
    · have hltI : (k : Int) < (ns.length : Int) := by omega
      obtain ⟨x, hx⟩ : ∃ x, ns[k]? = some x := ⟨ns[k], List.getElem?_eq_getElem hlt⟩
      obtain ⟨g, off, c, hvv, hcell⟩ := (Hv.out.later hbr.out).cells hx
      injection hvv with e1 e2 e3
      subst e1
      have hd : Hid ((decide (0 ≤ arrGo ts 0 x) && (ns.drop (k + 1)).all (fun s => decide (0 ≤ arrGo ts 0 s))) = r) := by rw [← all_drop (p := fun s => decide (0 ≤ arrGo ts 0 s)) hx]; exact hall.out
      have Hcell := Lib.hid hcell
      clear hx hall Hv e2 e3 hcell
      have bd : Below wr.heap.size wr wr.drew := (Below.refl _ wr).drew
      have CA : Hid (∀ (w2 : World), Below wr.heap.size wr w2 → Calls Tryz.prog 54 #[.agg #[.slice ao ts.length cap, vb], .string x] w2 fun e w' => e = .returned (.int .i64 (arrGo ts 0 x)) ∧ Below w2.heap.size w2 w') := fun w2 hb2 => spec_ArrAt ts hn x _ _ hvb w2 ((Ha.out.later hbr.out).later hb2)
      clear Ha
      by_cases hge : 0 ≤ arrGo ts 0 x
      · have h1 := Lib.hid (and_t hd.out (decide_eq_true hge))
        have hge' : ¬ arrGo ts 0 x < 0 := by omega
        clear hd
        go_wp2_with fail
        refine wp_region_held_drew (S := fun w' => w'.rangeAt w.heap.size 0 [.slice ao ts.length cap, vb] ∧ w'.cell? ⟨g, off + k, Option.none⟩ = some (.string x)) (by kernel_rfl) ⟨(World.rangeAt_drew _ _ _ _).2 hrg.out, keeps bd Hcell.out⟩ (fun hHeld => ?_)
        refine wpAnyH_take (i := 0) (v := .agg ([.slice ao ts.length cap, vb]).toArray) rfl (by kernel_rfl) (by kernel_rfl) (by kernel_rfl) (fun _ _ _ h => h) (yieldsIf_load_mid (by rfl) 31 _ rfl (w.heap.size) (0) rfl ([.slice ao ts.length cap, vb]) _ (fun w h => h.1) Tryz.underlying31 rfl sizeIP) hHeld ?_
        simp only [Act.put, List.getElem_toArray, List.getElem_cons_succ, List.getElem_cons_zero, List.setIfInBounds_toArray, List.set_cons_zero, List.set_cons_succ]
        refine wpAnyH_take (i := 1) (v := .slice (some ⟨g, off, Option.none⟩) ns.length lcap) rfl (by kernel_rfl) (by kernel_rfl) (by kernel_rfl) (fun _ _ _ h => h) (Or.inl ⟨by rfl, ?ya1⟩) hHeld ?_
        case ya1 => intro w hSw; go_simp
        simp only [Act.put, List.getElem_toArray, List.getElem_cons_succ, List.getElem_cons_zero, List.setIfInBounds_toArray, List.set_cons_zero, List.set_cons_succ]
        refine wpAnyH_take (i := 2) (v := .int .i64 (k : Int)) rfl (by kernel_rfl) (by kernel_rfl) (by kernel_rfl) (fun _ _ _ h => h) (Or.inl ⟨by rfl, ?ya2⟩) hHeld ?_
        case ya2 => intro w hSw; go_simp
        simp only [Act.put, List.getElem_toArray, List.getElem_cons_succ, List.getElem_cons_zero, List.setIfInBounds_toArray, List.set_cons_zero, List.set_cons_succ]
        refine wpAnyH_take (i := 3) (v := .pointer (some ⟨g, off + k, Option.none⟩)) rfl (by kernel_rfl) (by kernel_rfl) (by kernel_rfl) (fun _ _ _ h => h) (Or.inl ⟨by rfl, ?ya3⟩) hHeld ?_
        case ya3 => intro w hSw; go_simp
        simp only [Act.put, List.getElem_toArray, List.getElem_cons_succ, List.getElem_cons_zero, List.setIfInBounds_toArray, List.set_cons_zero, List.set_cons_succ]
        refine wpAnyH_take (i := 4) (v := .string x) rfl (by kernel_rfl) (by kernel_rfl) (by kernel_rfl) (fun _ _ _ h => h) (Or.inl ⟨by rfl, ?ya4⟩) hHeld ?_
        case ya4 => intro w hSw; have q := hSw.2; go_simp
        simp only [Act.put, List.getElem_toArray, List.getElem_cons_succ, List.getElem_cons_zero, List.setIfInBounds_toArray, List.set_cons_zero, List.set_cons_succ]
        refine wpAnyH_ready (rs := [5]) (by kernel_rfl) (by simp) ?_
        refine AllReadyH.cons rfl (fun K hK => ?_) AllReadyH.nil
        rw [if_pos (by rfl)]
        simp only [List.getElem_toArray, List.getElem_cons_succ, List.getElem_cons_zero]
        go_wp2_with fail
        refine (CA.out _ bd).mono ?_
        rintro e w4 ⟨rfl, hb4⟩
        go_wp2_with fail
        refine hK.out _ _ (⟨rangeAt_later hHeld.1 hb4, keeps hb4 hHeld.2⟩) (fun hHeld => ?_)
        refine wpAnyH_take (i := 6) (v := .bool false) rfl (by kernel_rfl) (by kernel_rfl) (by kernel_rfl) (fun _ _ _ h => h) (Or.inl ⟨by rfl, ?ya6⟩) hHeld ?_
        case ya6 => intro w hSw; go_simp
        simp only [Act.put, List.getElem_toArray, List.getElem_cons_succ, List.getElem_cons_zero, List.setIfInBounds_toArray, List.set_cons_zero, List.set_cons_succ]
        refine wpAnyH_done (by kernel_rfl) ?_ _
        have B4 := Lib.hid (hbr.out.trans ((bd.trans (hb4.mono bd.size)).mono hbr.out.size))
        have R4 := Lib.hid hHeld.1
        clear hHeld hb4 bd Hcell hrg hbr
        go_wp2
        go_roundw
        case rel => exact ⟨k + 1, by omega, by go_num, h1, B4, R4⟩
        case measure => simp [RowKit.intOf]; omega
      · have h1 := Lib.hid (and_f hd.out (decide_eq_false hge))
        have hge' : arrGo ts 0 x < 0 := by omega
        clear hd
        go_wp2_with fail
        refine wp_region_held_drew (S := fun w' => w'.rangeAt w.heap.size 0 [.slice ao ts.length cap, vb] ∧ w'.cell? ⟨g, off + k, Option.none⟩ = some (.string x)) (by kernel_rfl) ⟨(World.rangeAt_drew _ _ _ _).2 hrg.out, keeps bd Hcell.out⟩ (fun hHeld => ?_)
        refine wpAnyH_take (i := 0) (v := .agg ([.slice ao ts.length cap, vb]).toArray) rfl (by kernel_rfl) (by kernel_rfl) (by kernel_rfl) (fun _ _ _ h => h) (yieldsIf_load_mid (by rfl) 31 _ rfl (w.heap.size) (0) rfl ([.slice ao ts.length cap, vb]) _ (fun w h => h.1) Tryz.underlying31 rfl sizeIP) hHeld ?_
        simp only [Act.put, List.getElem_toArray, List.getElem_cons_succ, List.getElem_cons_zero, List.setIfInBounds_toArray, List.set_cons_zero, List.set_cons_succ]
        refine wpAnyH_take (i := 1) (v := .slice (some ⟨g, off, Option.none⟩) ns.length lcap) rfl (by kernel_rfl) (by kernel_rfl) (by kernel_rfl) (fun _ _ _ h => h) (Or.inl ⟨by rfl, ?yb1⟩) hHeld ?_
        case yb1 => intro w hSw; go_simp
        simp only [Act.put, List.getElem_toArray, List.getElem_cons_succ, List.getElem_cons_zero, List.setIfInBounds_toArray, List.set_cons_zero, List.set_cons_succ]
        refine wpAnyH_take (i := 2) (v := .int .i64 (k : Int)) rfl (by kernel_rfl) (by kernel_rfl) (by kernel_rfl) (fun _ _ _ h => h) (Or.inl ⟨by rfl, ?yb2⟩) hHeld ?_
        case yb2 => intro w hSw; go_simp
        simp only [Act.put, List.getElem_toArray, List.getElem_cons_succ, List.getElem_cons_zero, List.setIfInBounds_toArray, List.set_cons_zero, List.set_cons_succ]
        refine wpAnyH_take (i := 3) (v := .pointer (some ⟨g, off + k, Option.none⟩)) rfl (by kernel_rfl) (by kernel_rfl) (by kernel_rfl) (fun _ _ _ h => h) (Or.inl ⟨by rfl, ?yb3⟩) hHeld ?_
        case yb3 => intro w hSw; go_simp
        simp only [Act.put, List.getElem_toArray, List.getElem_cons_succ, List.getElem_cons_zero, List.setIfInBounds_toArray, List.set_cons_zero, List.set_cons_succ]
        refine wpAnyH_take (i := 4) (v := .string x) rfl (by kernel_rfl) (by kernel_rfl) (by kernel_rfl) (fun _ _ _ h => h) (Or.inl ⟨by rfl, ?yb4⟩) hHeld ?_
        case yb4 => intro w hSw; have q := hSw.2; go_simp
        simp only [Act.put, List.getElem_toArray, List.getElem_cons_succ, List.getElem_cons_zero, List.setIfInBounds_toArray, List.set_cons_zero, List.set_cons_succ]
        refine wpAnyH_ready (rs := [5]) (by kernel_rfl) (by simp) ?_
        refine AllReadyH.cons rfl (fun K hK => ?_) AllReadyH.nil
        rw [if_pos (by rfl)]
        simp only [List.getElem_toArray, List.getElem_cons_succ, List.getElem_cons_zero]
        go_wp2_with fail
        refine (CA.out _ bd).mono ?_
        rintro e w4 ⟨rfl, hb4⟩
        go_wp2_with fail
        refine hK.out _ _ (⟨rangeAt_later hHeld.1 hb4, keeps hb4 hHeld.2⟩) (fun hHeld => ?_)
        refine wpAnyH_take (i := 6) (v := .bool true) rfl (by kernel_rfl) (by kernel_rfl) (by kernel_rfl) (fun _ _ _ h => h) (Or.inl ⟨by rfl, ?yb6⟩) hHeld ?_
        case yb6 => intro w hSw; go_simp
        simp only [Act.put, List.getElem_toArray, List.getElem_cons_succ, List.getElem_cons_zero, List.setIfInBounds_toArray, List.set_cons_zero, List.set_cons_succ]
        refine wpAnyH_done (by kernel_rfl) ?_ _
        have B4 := Lib.hid (hbr.out.trans ((bd.trans (hb4.mono bd.size)).mono hbr.out.size))
        have R4 := Lib.hid hHeld.1
        clear hHeld hb4 bd Hcell hrg hbr
        go_wp2
        go_ret
        exact ⟨ret_bool h1.out.symm, B4.out⟩
    · have h1 := Lib.hid (all_end hall.out (by omega))
      go_wp2
      go_ret
      exact ⟨ret_bool h1.out.symm, hbr.out⟩
end Go.Proofs.YtkhccpjkajhnpabGreatDoor
