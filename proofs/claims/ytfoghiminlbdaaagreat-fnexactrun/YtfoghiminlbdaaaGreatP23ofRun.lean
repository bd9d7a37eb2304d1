/-
  Texts in one: ProgImpl, RunProg.
-/
import Derived.Test.YtfoghiminlbdaaaGreatZp
import Derived.Test.YtfoghiminlbdaaaGreatP21ofRun
import Derived.Test.YtfoghiminlbdaaaGreatProgArrs
import Derived.Test.YtfoghiminlbdaaaGreatP13ofRun
import Derived.Test.YtfoghiminlbdaaaGreatP18ofRun
namespace Go.Proofs.YtfoghiminlbdaaaGreat
open Go.RowKit Go.Lib Go.Maps Go.Sort Go.WideMaps
set_option linter.unusedSimpArgs false
set_option linter.unusedVariables false
theorem all9_of : ∀ F : SF, ssize F ≤ 4000000 → all9 F
  | .nil, _ => trivial
  | .node _ _ h l r, e => by
    simp only [ssize, hsize, xsize] at e
    have a1 := enodes_le h.x1.l; have a2 := enodes_le h.x2.l; have a3 := enodes_le h.x3.l; have a4 := enodes_le h.x4.l
    exact ⟨⟨by omega, by omega, by omega, by omega⟩, all9_of l (by omega), all9_of r (by omega)⟩
theorem small9_of {h : SH} (e : hsize h ≤ 4000000) : small9 h := by
  simp only [hsize, xsize] at e
  have a1 := enodes_le h.x1.l; have a2 := enodes_le h.x2.l; have a3 := enodes_le h.x3.l; have a4 := enodes_le h.x4.l
  exact ⟨by omega, by omega, by omega, by omega⟩
set_option maxHeartbeats 4000000 in
set_option maxRecDepth 100000 in
theorem stmtsOk_is (F : SF) (hS : ssize F ≤ 1048576) (A : Bool) (hA : (decide (slen F ≤ 12) && (stmtsB F && decide (snodes F ≤ 40))) = A) (v : Value) (w : World) (hv : SV w 0 F v) :
    Calls Tryz.prog 73 #[v] w fun e w' => e = .returned (.bool A) ∧ Below w.heap.size w w' := by
  have Hv := hid hv
  have hF := Nat.le_trans (snodes_le F) hS
  have hlF := Nat.le_trans (slen_le F) hF
  obtain ⟨b, o, ao, cap, rfl, hao, _, hin⟩ := hv
  have HA0 := hid hA
  clear hA
  by_cases h12 : (slen F : Int) ≤ 12
  · have h12' : ¬ (12 : Int) < (slen F : Int) := by omega
    have HA := hid (and_t HA0.out (decide_eq_true (by omega)))
    clear HA0
    go_enter Tryz.func73, Tryz.ntmps73
    go_wp2
    go_loopw [10] (fun i wr => ∃ (R : SF) (j : Nat), i = .int .i64 (j : Int) ∧ Hid (j + slen R = slen F ∧ (stmtsB R && decide (snodes F ≤ 40)) = A ∧ ssize R ≤ 1048576 ∧ SIn w 0 R b (o + j * 19)) ∧ Hid (Below w.heap.size w wr)) (fun i _ => slen F - (RowKit.intOf i).toNat)
    case atStart => exact ⟨F, 0, rfl, ⟨by omega, HA.out, hS, by simpa using hin⟩, Below.refl _ _⟩
    case round =>
      obtain ⟨R, j, rfl, hr, hbw⟩ := hrel
      obtain ⟨e1, e2, e3, e4⟩ := hr.out
      clear HA hr
      cases R with
      | nil =>
        have hk : ¬ (j : Int) < (slen F : Int) := by simp only [slen] at e1; omega
        have E := hid (show decide (snodes F ≤ 40) = A from e2)
        have CS := hid (impl_Size F (by omega) wr _ (Hv.out.later hbw.out))
        clear e2 e4 hin
        go_wp2_with fail
        refine CS.out.mono ?_
        rintro e w3 ⟨rfl, hb3⟩
        have B3 := hid (hbw.out.trans (hb3.mono hbw.out.size))
        clear hb3 CS
        by_cases h40 : (snodes F : Int) ≤ 40
        · have E3 := hid (show true = A by rw [← E.out, decide_eq_true (by omega)])
          have hd40 : decide ((snodes F : Int) ≤ 40) = true := decide_eq_true h40
          go_wp2
          go_ret
          exact ⟨ret_bool (by first | exact E3.out | (rw [hd40]; exact E3.out)), B3.out⟩
        · have E3 := hid (show false = A by rw [← E.out, decide_eq_false (by omega)])
          have hd40 : decide ((snodes F : Int) ≤ 40) = false := decide_eq_false h40
          go_wp2
          go_ret
          exact ⟨ret_bool (by first | exact E3.out | (rw [hd40]; exact E3.out)), B3.out⟩
      | node p q h l r =>
        have hlt : (j : Int) < (slen F : Int) := by simp only [slen] at e1; omega
        have hne : ¬ F = .nil := by intro e; subst e; simp only [slen] at e1; omega
        obtain rfl : ao = some ⟨b, o, Option.none⟩ := hao.resolve_right hne
        have hr0 := hid (SIn_node.1 e4).2
        obtain ⟨v1, v2, v3, v4, u, hv0, hu0, hrg⟩ := SC.range (SC.later (SIn_node.1 e4).1 hbw.out)
        simp only [ssize] at e3
        have hn5 := snodes_le l
        have Hrg := hid hrg
        have o1 := hv0.e1.isOne; have o2 := hv0.e2.isOne; have o3 := hv0.e3.isOne; have o4 := hv0.e4.isOne; have o5 := hu0.isOne
        have He := hid (And.intro e1 (And.intro (show (stmtOk h l && (stmtsB r && decide (snodes F ≤ 40))) = A by rw [← Bool.and_assoc]; exact e2) e3))
        obtain ⟨bs, Hbs⟩ : ∃ bs, Hid (stmtOk h l = bs) := ⟨_, rfl⟩
        have CS : Hid (∀ W, Below wr.heap.size wr W → Calls Tryz.prog 128 #[.agg (scells h v1 v2 v3 v4 u).toArray] W fun e w' => e = .returned (.bool bs) ∧ Below W.heap.size W w') := hid (fun W hW => by rw [← Hbs.out]; exact impl_StmtOk h l (small9_of (by omega)) (all9_of l (by omega)) (by omega) W v1 v2 v3 v4 u (hv0.later hW) (hu0.later hW))
        clear e1 e2 e3 e4 hin hne hao hrg hv0 hu0
        go_wp2_with (first | (refine wpList_load_mid rfl 119 _ rfl b (o + j * 19) rfl _ _ Hrg.out Tryz.underlying119 rfl sizeIS ?_) | (refine store_abs rfl 119 _ _ rfl _ _ _ rfl rfl ?ht sizeIS ?ho ?_; exact (newthere wr _); exact (oneS h v1 v2 v3 v4 _ o1 o2 o3 o4 o5); intro W hW; have HW := hid (newblkS h v1 v2 v3 v4 _ hW); clear hW) | (refine wpList_load_mid rfl 119 _ rfl wr.heap.size 0 rfl _ _ HW.out.1 Tryz.underlying119 rfl sizeIS ?_))
        refine (CS.out W HW.out.2).mono ?_
        rintro e w3 ⟨rfl, hb3⟩
        have B3 := hid (hbw.out.trans ((HW.out.2.trans (hb3.mono HW.out.2.size)).mono hbw.out.size))
        clear hb3 CS Hrg HW
        cases bs with
        | false =>
          have E := hid (and_f He.out.2.1 Hbs.out)
          go_wp2
          go_ret
          exact ⟨ret_bool E.out.symm, B3.out⟩
        | true =>
          have E := hid (and_t He.out.2.1 Hbs.out)
          go_wp2
          go_roundw
          case rel => exact ⟨r, j + 1, by go_num, ⟨by have := He.out.1; simp only [slen] at this; omega, E.out, by have := He.out.2.2; omega, by rw [show o + (j + 1) * 19 = o + j * 19 + 19 by omega]; exact hr0.out⟩, B3⟩
          case measure => simp [RowKit.intOf]; omega
  · have h12' : (12 : Int) < (slen F : Int) := by omega
    have h1 := hid (and_f HA0.out (decide_eq_false (by omega)))
    go_enter Tryz.func73, Tryz.ntmps73
    go_wp2
    go_ret
    exact ⟨ret_bool h1.out.symm, Below.refl _ _⟩
def hasB (ns : List ByteArray) (s : ByteArray) : Bool := ns.any (fun t => decide (t = s))
theorem hasB_iff (ns : List ByteArray) (s : ByteArray) : hasB ns s = true ↔ s ∈ ns := by
  unfold hasB; rw [List.any_eq_true]
  constructor
  · rintro ⟨t, ht, e⟩; rw [decide_eq_true_eq] at e; exact e ▸ ht
  · intro h; exact ⟨s, h, by simp⟩
def arrT (ns : List ByteArray) : ByteArray → Int := fun s => if hasB ns s = true then 1 else 0
theorem arrT_in {ns : List ByteArray} {s : ByteArray} (h : s ∈ ns) : arrT ns s = 1 := if_pos ((hasB_iff ns s).2 h)
theorem arrT_out {ns : List ByteArray} {s : ByteArray} (h : ¬ s ∈ ns) : arrT ns s = 0 := if_neg (fun c => h ((hasB_iff ns s).1 c))
theorem arrT_TT (ns : List ByteArray) : TT ns [] (arrT ns) := by
  refine ⟨fun s => ?_, fun s => ?_, fun s => ?_, fun s => ?_⟩
  all_goals by_cases h : s ∈ ns
  all_goals first | (rw [arrT_in h]; simp [h]) | (rw [arrT_out h]; simp [h])
theorem arrT_snoc (ns : List ByteArray) (x s : ByteArray) : (if s = x then 1 else arrT ns s) = arrT (ns ++ [x]) s := by
  by_cases e : s = x
  · rw [if_pos e, arrT_in (by simp [e])]
  · rw [if_neg e]
    by_cases h : s ∈ ns
    · rw [arrT_in h, arrT_in (by simp [h])]
    · rw [arrT_out h, arrT_out (by simp [h, e])]
theorem rd_made (w : World) : Rd (w.alloc (.map #[] 0)) w.heap.size 0 (fun _ => 0) := ⟨.map [], World.ownsMap_made (H := Unit) w Tryz.prog 9 (plainElem Tryz.prog 3), fun s => rfl⟩
theorem nm_start (w : World) (a d : Obj) : Rd ((((w.alloc a).alloc (.map #[] 0)).alloc (.map #[] 0)).alloc d) (w.heap.size + 1) 0 (arrT []) ∧ Rd ((((w.alloc a).alloc (.map #[] 0)).alloc (.map #[] 0)).alloc d) (w.heap.size + 2) 0 (asInt fun _ => false) ∧
    ((((w.alloc a).alloc (.map #[] 0)).alloc (.map #[] 0)).alloc d).heap[w.heap.size]? = some a ∧ ((((w.alloc a).alloc (.map #[] 0)).alloc (.map #[] 0)).alloc d).heap[w.heap.size + 3]? = some d ∧ Below w.heap.size w ((((w.alloc a).alloc (.map #[] 0)).alloc (.map #[] 0)).alloc d) := by
  have s1 : (w.alloc a).heap.size = w.heap.size + 1 := by simp
  have s2 : ((w.alloc a).alloc (.map #[] 0)).heap.size = w.heap.size + 2 := by simp
  have s3 : (((w.alloc a).alloc (.map #[] 0)).alloc (.map #[] 0)).heap.size = w.heap.size + 3 := by simp
  have r1 := rd_made (w.alloc a)
  have r2 := rd_made ((w.alloc a).alloc (.map #[] 0))
  rw [s1] at r1
  rw [s2] at r2
  refine ⟨?_, ?_, ?_, ?_, ?_⟩
  · refine Rd.as ((r1.below (alloc_below _ _)).below (alloc_below _ _)) (fun s => (arrT_out (by simp)).symm)
  · exact Rd.as (r2.below (alloc_below _ _)) (fun s => rfl)
  · rw [Below.heap_alloc _ _ _ (by omega), Below.heap_alloc _ _ _ (by omega), Below.heap_alloc _ _ _ (by omega)]; exact heap_last w a
  · have := heap_last (((w.alloc a).alloc (.map #[] 0)).alloc (.map #[] 0)) d; rwa [s3] at this
  · exact (((alloc_below w a).alloc (by omega) _).alloc (by omega) _).alloc (by omega) _
set_option maxHeartbeats 4000000 in
set_option maxRecDepth 100000 in
theorem namingOf_is (ts : List AR) (hn : ts.length ≤ 1048576) (hts : ∀ t ∈ ts, t.s.size ≤ 1048576) (va : Value) (w : World) (ha : AV w 0 va ts) :
    Calls Tryz.prog 74 #[va] w fun e w' => e = .returned (nam (w.heap.size + 1) (w.heap.size + 2)) ∧ Rd w' (w.heap.size + 1) ts.length (arrT (arrNames ts)) ∧ Rd w' (w.heap.size + 2) 0 (asInt fun _ => false) ∧ Below w.heap.size w w' := by
  have hmm := @run_makeMap Tryz.prog
  have Ha := hid ha
  have Ht := hid hts
  obtain ⟨ao, cap, rfl⟩ := ha.shape
  have N0 := hid (nm_start w (.cells #[.map Option.none, .map Option.none] 115) (.cells #[.map (some (w.heap.size + 1)), .map (some (w.heap.size + 2))] 115))
  clear ha hts
  go_enter Tryz.func74, Tryz.ntmps74
  go_wp2
  go_loopw [11] (fun i wr => ∃ k : Nat, k ≤ ts.length ∧ i = .int .i64 k ∧ Hid (Rd wr (w.heap.size + 1) k (arrT (arrNames (ts.take k)))) ∧ Hid (Rd wr (w.heap.size + 2) 0 (asInt fun _ => false) ∧ wr.heap[w.heap.size]? = some (.cells #[.map Option.none, .map Option.none] 115) ∧ wr.heap[w.heap.size + 3]? = some (.cells #[.map (some (w.heap.size + 1)), .map (some (w.heap.size + 2))] 115) ∧ Below w.heap.size w wr)) (fun i _ => ts.length - (RowKit.intOf i).toNat)
  case atStart => exact ⟨0, by omega, rfl, N0.out.1, N0.out.2.1, N0.out.2.2.1, N0.out.2.2.2.1, N0.out.2.2.2.2⟩
  case round =>
    obtain ⟨k, hk, rfl, hR, hrest⟩ := hrel
    clear N0
    obtain ⟨⟨q0, q1⟩, f0, f1⟩ := blk2 hrest.out.2.2.1
    by_cases hlt : k < ts.length
    · have hltI : (k : Int) < (ts.length : Int) := by omega
      have hkI : (k : Int) < 10000000 := by omega
      obtain ⟨t, ht⟩ : ∃ t, ts[k]? = some t := ⟨ts[k], List.getElem?_eq_getElem hlt⟩
      obtain ⟨g, off, cap', hvv, hcells⟩ := arrAt_cells (Ha.out.later hrest.out.2.2.2) (by intro e; subst e; simp at hlt)
      injection hvv with e1 e2 e3
      subst e1
      clear e2 e3
      have c0 := (hcells k t ht).1
      have c1 := (hcells k t ht).2
      have hE := hid (arrNames_take ht)
      have hkey := keyS (s := t.s) (Nat.le_trans (Ht.out t (List.mem_of_getElem? ht)) (by omega))
      have Q0 : ∀ o, (wr.alloc o).cell? ⟨w.heap.size + 3, 0, Option.none⟩ = some (.map (some (w.heap.size + 1))) := fun o => keeps (alloc_below _ _) q0
      have BW := hid (fun o => alloc_below wr o)
      have hlt2 := lt_heap hrest.out.2.2.1
      obtain ⟨D, hown, hat0⟩ := hR.out.below (alloc_below wr (.cells #[.string t.s, .int .i64 t.n] 92))
      have HO := hid hown
      have HA0 := hid hat0
      have hD := hid (hown.tidy keyLaw).isMap
      clear hown hat0 hcells ht
      go_wp2_with (first
        | (at_mapUpdate; refine wpList_mapUpdate_own _ rfl _ _ _ 113 rfl 9 3 keyLaw Tryz.underlying113 _ (w.heap.size + 1) k _ rfl HO.out (by unfold maxLen; omega) _ _ _ rfl rfl hkey _ [] (plainElem_int (a := 1) Tryz.underlying3 (by decide)) ?_)
        | go_in)
      intro w1 ho1 hg1
      have hR1 : Hid (Rd w1 (w.heap.size + 1) (k + 1) (arrT (arrNames (ts.take (k + 1))))) := hid (Rd.as ⟨_, ho1, rd_put hD.out HA0.out t.s 1⟩ (fun s => by rw [hE.out]; exact arrT_snoc _ _ _))
      have hblk := fun (i : Nat) (h1 : i < wr.heap.size) (h2 : i ≠ w.heap.size + 1) => (hg1.block i (by simp; omega) (fun e => by injection e with e; exact h2 e)).trans ((BW.out _).block i h1)
      have HR1 := hid (show Rd w1 (w.heap.size + 2) 0 (asInt fun _ => false) ∧ w1.heap[w.heap.size]? = some (.cells #[.map Option.none, .map Option.none] 115) ∧ w1.heap[w.heap.size + 3]? = some (.cells #[.map (some (w.heap.size + 1)), .map (some (w.heap.size + 2))] 115) ∧ Below w.heap.size w w1 from
        ⟨hrest.out.1.block (hblk _ hrest.out.1.lt (by omega)), (hblk _ (by omega) (by omega)).trans hrest.out.2.1, (hblk _ hlt2 (by omega)).trans hrest.out.2.2.1, ⟨hg1.os.trans ((BW.out _).os.trans hrest.out.2.2.2.os), hg1.tape.trans ((BW.out _).tape.trans hrest.out.2.2.2.tape), hg1.output.trans ((BW.out _).output.trans hrest.out.2.2.2.output), by have := hg1.size; have := hrest.out.2.2.2.size; simp at *; omega, fun i hi => (hblk i (by omega) (by omega)).trans (hrest.out.2.2.2.block i hi)⟩⟩)
      clear ho1 hg1 hblk q0 q1 c0 c1 f0 f1 Q0
      go_wp2
      go_roundw
      case rel => exact ⟨k + 1, by omega, by go_num, hR1, HR1⟩
      case measure => simp [RowKit.intOf]; omega
    · have hke : k = ts.length := by omega
      obtain ⟨⟨z0, z1⟩, g0, g1⟩ := blk2 hrest.out.2.1
      have hRR := hid (show Rd wr (w.heap.size + 1) ts.length (arrT (arrNames ts)) by have := hR.out; rw [hke, List.take_of_length_le (Nat.le_refl _)] at this; exact this)
      have hlt2 := lt_heap hrest.out.2.2.1
      clear hR hke
      go_wp2
      refine bodyPost_ret (v := nam (w.heap.size + 1) (w.heap.size + 2)) (by simp [results, Tryz.results74, go_sem, z0, z1, hlt2]) rfl ⟨rfl, ?_, ?_, ?_⟩
      · refine hRR.out.block ?_
        rw [Below.heap_setCell _ _ _ _ (by show w.heap.size + 1 ≠ w.heap.size; omega), Below.heap_setCell _ _ _ _ (by show w.heap.size + 1 ≠ w.heap.size; omega)]
      · refine hrest.out.1.block ?_
        rw [Below.heap_setCell _ _ _ _ (by show w.heap.size + 2 ≠ w.heap.size; omega), Below.heap_setCell _ _ _ _ (by show w.heap.size + 2 ≠ w.heap.size; omega)]
      · exact (hrest.out.2.2.2.setCell (p := ⟨w.heap.size, 0, Option.none⟩) (by simp) _).setCell (p := ⟨w.heap.size, 1, Option.none⟩) (by simp) _
theorem prog_eq (ts : List AR) (F : SF) : progB ts F = ((decide (ts.length ≤ 4) && arrsB Option.none ts) && ((decide (slen F ≤ 12) && (stmtsB F && decide (snodes F ≤ 40))) && (namesB ts F))) := by
  unfold progB headB
  cases arrsB Option.none ts <;> cases stmtsB F <;> cases decide (ts.length ≤ 4) <;> cases decide (slen F ≤ 12) <;> cases decide (snodes F ≤ 40) <;> rfl
set_option maxHeartbeats 4000000 in
set_option maxRecDepth 100000 in
theorem impl_ProgOk (ts : List AR) (hn : ts.length ≤ 1048576) (hts : ∀ t ∈ ts, t.s.size ≤ 1048576) (F : SF) (hS : ssize F ≤ 1048576) (va vb : Value) (w : World) (ha : AV w 0 va ts) (hv : SV w 0 F vb) :
    Calls Tryz.prog 32 #[.agg #[va, vb]] w fun e w' => e = .returned (.bool (progB ts F)) ∧ Below w.heap.size w w' := by
  have Ha := hid ha
  have Hv := hid hv
  have hF := Nat.le_trans (snodes_le F) hS
  obtain ⟨ao, cap, rfl⟩ := ha.shape
  obtain ⟨vo, vcap, rfl⟩ := hv.shape
  obtain ⟨A, HA⟩ : ∃ A, Hid (progB ts F = A) := ⟨_, rfl⟩
  obtain ⟨b1, H1⟩ : ∃ b, Hid ((decide (ts.length ≤ 4) && arrsB Option.none ts) = b) := ⟨_, rfl⟩
  obtain ⟨b2, H2⟩ : ∃ b, Hid ((decide (slen F ≤ 12) && (stmtsB F && decide (snodes F ≤ 40))) = b) := ⟨_, rfl⟩
  have EE := hid (show (b1 && (b2 && namesB ts F)) = A by rw [← HA.out, prog_eq, H1.out, H2.out])
  rw [HA.out]
  obtain ⟨w1, W1⟩ : ∃ w1, Hid (w1 = w.alloc (.cells #[.slice ao ts.length cap, .slice vo (slen F) vcap] 27)) := ⟨_, rfl⟩
  have B := hid (show Below w.heap.size w w1 by rw [W1.out]; exact alloc_below w _)
  have R : Hid (w1.rangeAt w.heap.size 0 [.slice ao ts.length cap, .slice vo (slen F) vcap]) := hid (by rw [W1.out]; exact blk_range (arr := #[.slice ao ts.length cap, .slice vo (slen F) vcap]) (heap_last _ _))
  have HAv := hid (Ha.out.later B.out)
  have HSv := hid (Hv.out.later B.out)
  have C1 : Hid (∀ w', Below w1.heap.size w1 w' → Calls Tryz.prog 72 #[.slice ao ts.length cap] w' fun e w'' => e = .returned (.bool b1) ∧ Below w'.heap.size w' w'') := fun w' hb => arrsOk_is ts hn b1 H1.out _ w' (HAv.out.later hb)
  have C2 : Hid (∀ w', Below w1.heap.size w1 w' → Calls Tryz.prog 73 #[.slice vo (slen F) vcap] w' fun e w'' => e = .returned (.bool b2) ∧ Below w'.heap.size w' w'') := fun w' hb => stmtsOk_is F hS b2 H2.out _ w' (HSv.out.later hb)
  have C3 : Hid (∀ w', Below w1.heap.size w1 w' → Calls Tryz.prog 34 #[.slice vo (slen F) vcap] w' (GoodNames w' (nmS 1 F []))) := fun w' hb => impl_VarsOf F (by omega) (fun n hn => Nat.le_trans (sall_small F n hn) (by omega)) w' _ (HSv.out.later hb)
  have C4 : Hid (∀ w', Below w1.heap.size w1 w' → Calls Tryz.prog 74 #[.slice ao ts.length cap] w' fun e w'' => e = .returned (nam (w'.heap.size + 1) (w'.heap.size + 2)) ∧ Rd w'' (w'.heap.size + 1) ts.length (arrT (arrNames ts)) ∧ Rd w'' (w'.heap.size + 2) 0 (asInt fun _ => false) ∧ Below w'.heap.size w' w'') := fun w' hb => namingOf_is ts hn hts _ w' (HAv.out.later hb)
  have HB2 := hid (fun (h : b2 = true) => show bodies F ∧ snodes F ≤ 40 by
    have e := H2.out.trans h
    simp only [Bool.and_eq_true, decide_eq_true_eq] at e
    exact ⟨told_bodies F 3 (stmts_told F e.2.1), e.2.2⟩)
  have HB1 := hid (fun (h : b1 = true) => show ts.length ≤ 4 by
    have e := H1.out.trans h
    simp only [Bool.and_eq_true, decide_eq_true_eq] at e
    exact e.1)
  have C5 : Hid (b1 = true → b2 = true → ∀ (w5 w6 : World), Below w1.heap.size w1 w5 → Below w5.heap.size w5 w6 → Rd w6 (w5.heap.size + 1) ts.length (arrT (arrNames ts)) → Rd w6 (w5.heap.size + 2) 0 (asInt fun _ => false) → Calls Tryz.prog 75 #[nam (w5.heap.size + 1) (w5.heap.size + 2), .slice vo (slen F) vcap] w6 fun e w' => ∃ b : Bool, e = .returned (.bool b) ∧ (b = true ↔ (AllFit (arrNames ts) ([] ++ sall F) ∧ nestP F (fun _ => false))) ∧ Gap (w5.heap.size + 1) (w5.heap.size + 3) w6 w') := fun h1 h2 w5 w6 hb5 hb6 hT hA =>
    (bodyFits_is F w5 w6 _ (w5.heap.size + 1) ts.length (arrNames ts) [] (arrT (arrNames ts)) (fun _ => false) (HSv.out.later hb5) (Nat.le_succ _) hb6 hT (hA.more (Nat.zero_le _)) (by have := HB1.out h1; have := (HB2.out h2).2; omega) (nice_of F hS) (HB2.out h2).1 (arrT_TT _) (fun n hn => by simp at hn)).mono (by
      rintro e w' ⟨b, rfl, hb, hg, _, _⟩
      exact ⟨b, rfl, hb, hg⟩)
  have bd : Below w1.heap.size w1 w1.drew := (Below.refl _ w1).drew
  have hw1 : w1.heap.size = w.heap.size + 1 := by rw [W1.out]; simp
  have HN := hid (names_iff ts F)
  clear ha hv hts Ha Hv HAv HSv H1 H2 HA HB1 HB2
  go_enter Tryz.func32, Tryz.ntmps32
  go_wp2_with fail
  rw [← W1.out]
  clear W1
  refine wp_region_held_drew (S := Below w1.heap.size w1) (by kernel_rfl) bd (fun hHeld => ?_)
  refine wpAnyH_take (i := 0) (v := .pointer (some ⟨w.heap.size, 0, Option.none⟩)) rfl (by kernel_rfl) (by kernel_rfl) (by kernel_rfl) (fun _ _ _ h => h) (Or.inl ⟨by rfl, ?ys0⟩) hHeld ?_
  case ys0 => intro w hSw; go_simp
  simp only [Act.put, zp]
  refine wpAnyH_take (i := 1) (v := .slice ao ts.length cap) rfl (by kernel_rfl) (by kernel_rfl) (by kernel_rfl) (fun _ _ _ h => h) (Or.inl ⟨by rfl, ?ys1⟩) hHeld ?_
  case ys1 => intro w hSw; have q := rangeAt_later R.out hSw 0 _ rfl; go_simp
  simp only [Act.put, zp]
  refine wpAnyH_ready (rs := [2]) (by kernel_rfl) (by simp) ?_
  refine AllReadyH.cons rfl (fun K hK => ?_) AllReadyH.nil
  rw [if_pos (by rfl)]
  simp only [zq]
  go_wp2_with fail
  refine (C1.out _ hHeld).mono ?_
  rintro e w5 ⟨rfl, hb5⟩
  go_wp2_with fail
  refine hK.out _ _ (hHeld.trans (hb5.mono hHeld.size)) (fun hHeld => ?_)
  cases b1 with
  | false =>
    refine wpAnyH_take (i := 3) (v := .bool false) rfl (by kernel_rfl) (by kernel_rfl) (by kernel_rfl) (fun _ _ _ h => h) (Or.inl ⟨by rfl, ?yb1f3⟩) hHeld ?_
    case yb1f3 => intro w hSw; go_simp
    simp only [Act.put, zp]
    refine wpAnyH_take (i := 4) (v := undef) rfl (by kernel_rfl) (by kernel_rfl) (by kernel_rfl) (fun _ _ _ h => h) (Or.inr ⟨by rfl, rfl⟩) hHeld ?_
    simp only [Act.put, zp]
    refine wpAnyH_take (i := 5) (v := undef) rfl (by kernel_rfl) (by kernel_rfl) (by kernel_rfl) (fun _ _ _ h => h) (Or.inr ⟨by rfl, rfl⟩) hHeld ?_
    simp only [Act.put, zp]
    refine wpAnyH_take (i := 6) (v := undef) rfl (by kernel_rfl) (by kernel_rfl) (by kernel_rfl) (fun _ _ _ h => h) (Or.inr ⟨by rfl, rfl⟩) hHeld ?_
    simp only [Act.put, zp]
    refine wpAnyH_take (i := 7) (v := .bool false) rfl (by kernel_rfl) (by kernel_rfl) (by kernel_rfl) (fun _ _ _ h => h) (Or.inl ⟨by rfl, ?yb1f7⟩) hHeld ?_
    case yb1f7 => intro w hSw; go_simp
    simp only [Act.put, zp]
    refine wpAnyH_take (i := 8) (v := .bool false) rfl (by kernel_rfl) (by kernel_rfl) (by kernel_rfl) (fun _ _ _ h => h) (Or.inl ⟨by rfl, ?yb1f8⟩) hHeld ?_
    case yb1f8 => intro w hSw; go_simp
    simp only [Act.put, zp]
    refine wpAnyH_take (i := 9) (v := undef) rfl (by kernel_rfl) (by kernel_rfl) (by kernel_rfl) (fun _ _ _ h => h) (Or.inr ⟨by rfl, rfl⟩) hHeld ?_
    simp only [Act.put, zp]
    refine wpAnyH_take (i := 10) (v := undef) rfl (by kernel_rfl) (by kernel_rfl) (by kernel_rfl) (fun _ _ _ h => h) (Or.inr ⟨by rfl, rfl⟩) hHeld ?_
    simp only [Act.put, zp]
    refine wpAnyH_take (i := 11) (v := undef) rfl (by kernel_rfl) (by kernel_rfl) (by kernel_rfl) (fun _ _ _ h => h) (Or.inr ⟨by rfl, rfl⟩) hHeld ?_
    simp only [Act.put, zp]
    refine wpAnyH_take (i := 12) (v := undef) rfl (by kernel_rfl) (by kernel_rfl) (by kernel_rfl) (fun _ _ _ h => h) (Or.inr ⟨by rfl, rfl⟩) hHeld ?_
    simp only [Act.put, zp]
    refine wpAnyH_take (i := 13) (v := undef) rfl (by kernel_rfl) (by kernel_rfl) (by kernel_rfl) (fun _ _ _ h => h) (Or.inr ⟨by rfl, rfl⟩) hHeld ?_
    simp only [Act.put, zp]
    refine wpAnyH_take (i := 14) (v := .bool false) rfl (by kernel_rfl) (by kernel_rfl) (by kernel_rfl) (fun _ _ _ h => h) (Or.inl ⟨by rfl, ?yb1f14⟩) hHeld ?_
    case yb1f14 => intro w hSw; go_simp
    simp only [Act.put, zp]
    refine wpAnyH_take (i := 15) (v := .bool false) rfl (by kernel_rfl) (by kernel_rfl) (by kernel_rfl) (fun _ _ _ h => h) (Or.inl ⟨by rfl, ?yb1f15⟩) hHeld ?_
    case yb1f15 => intro w hSw; go_simp
    simp only [Act.put, zp]
    refine wpAnyH_take (i := 16) (v := undef) rfl (by kernel_rfl) (by kernel_rfl) (by kernel_rfl) (fun _ _ _ h => h) (Or.inr ⟨by rfl, rfl⟩) hHeld ?_
    simp only [Act.put, zp]
    refine wpAnyH_take (i := 17) (v := undef) rfl (by kernel_rfl) (by kernel_rfl) (by kernel_rfl) (fun _ _ _ h => h) (Or.inr ⟨by rfl, rfl⟩) hHeld ?_
    simp only [Act.put, zp]
    refine wpAnyH_take (i := 18) (v := undef) rfl (by kernel_rfl) (by kernel_rfl) (by kernel_rfl) (fun _ _ _ h => h) (Or.inr ⟨by rfl, rfl⟩) hHeld ?_
    simp only [Act.put, zp]
    refine wpAnyH_take (i := 19) (v := undef) rfl (by kernel_rfl) (by kernel_rfl) (by kernel_rfl) (fun _ _ _ h => h) (Or.inr ⟨by rfl, rfl⟩) hHeld ?_
    simp only [Act.put, zp]
    refine wpAnyH_take (i := 20) (v := undef) rfl (by kernel_rfl) (by kernel_rfl) (by kernel_rfl) (fun _ _ _ h => h) (Or.inr ⟨by rfl, rfl⟩) hHeld ?_
    simp only [Act.put, zp]
    refine wpAnyH_take (i := 21) (v := undef) rfl (by kernel_rfl) (by kernel_rfl) (by kernel_rfl) (fun _ _ _ h => h) (Or.inr ⟨by rfl, rfl⟩) hHeld ?_
    simp only [Act.put, zp]
    refine wpAnyH_take (i := 22) (v := .bool false) rfl (by kernel_rfl) (by kernel_rfl) (by kernel_rfl) (fun _ _ _ h => h) (Or.inl ⟨by rfl, ?yb1f22⟩) hHeld ?_
    case yb1f22 => intro w hSw; go_simp
    simp only [Act.put, zp]
    refine wpAnyH_take (i := 23) (v := .bool false) rfl (by kernel_rfl) (by kernel_rfl) (by kernel_rfl) (fun _ _ _ h => h) (Or.inl ⟨by rfl, ?yb1f23⟩) hHeld ?_
    case yb1f23 => intro w hSw; go_simp
    simp only [Act.put, zp]
    refine wpAnyH_done (by kernel_rfl) ?_ _
    have EF := hid (and_f EE.out rfl).symm
    have BB := hid (B.out.trans (hHeld.mono B.out.size))
    clear hHeld bd
    go_wp2
    go_ret
    exact ⟨ret_bool EF.out, BB.out⟩
  | true =>
    have E1 := hid (and_t EE.out rfl)
    clear EE
    refine wpAnyH_take (i := 3) (v := .bool true) rfl (by kernel_rfl) (by kernel_rfl) (by kernel_rfl) (fun _ _ _ h => h) (Or.inl ⟨by rfl, ?ys3⟩) hHeld ?_
    case ys3 => intro w hSw; go_simp
    simp only [Act.put, zp]
    refine wpAnyH_take (i := 4) (v := .pointer (some ⟨w.heap.size, 1, Option.none⟩)) rfl (by kernel_rfl) (by kernel_rfl) (by kernel_rfl) (fun _ _ _ h => h) (Or.inl ⟨by rfl, ?ys4⟩) hHeld ?_
    case ys4 => intro w hSw; go_simp
    simp only [Act.put, zp]
    refine wpAnyH_take (i := 5) (v := .slice vo (slen F) vcap) rfl (by kernel_rfl) (by kernel_rfl) (by kernel_rfl) (fun _ _ _ h => h) (Or.inl ⟨by rfl, ?ys5⟩) hHeld ?_
    case ys5 => intro w hSw; have q := rangeAt_later R.out hSw 1 _ rfl; go_simp
    simp only [Act.put, zp]
    refine wpAnyH_ready (rs := [6]) (by kernel_rfl) (by simp) ?_
    refine AllReadyH.cons rfl (fun K hK => ?_) AllReadyH.nil
    rw [if_pos (by rfl)]
    simp only [zq]
    go_wp2_with fail
    refine (C2.out _ hHeld).mono ?_
    rintro e w6 ⟨rfl, hb6⟩
    go_wp2_with fail
    refine hK.out _ _ (hHeld.trans (hb6.mono hHeld.size)) (fun hHeld => ?_)
    cases b2 with
    | false =>
      refine wpAnyH_take (i := 7) (v := .bool false) rfl (by kernel_rfl) (by kernel_rfl) (by kernel_rfl) (fun _ _ _ h => h) (Or.inl ⟨by rfl, ?yb2f7⟩) hHeld ?_
      case yb2f7 => intro w hSw; go_simp
      simp only [Act.put, zp]
      refine wpAnyH_take (i := 8) (v := .bool false) rfl (by kernel_rfl) (by kernel_rfl) (by kernel_rfl) (fun _ _ _ h => h) (Or.inl ⟨by rfl, ?yb2f8⟩) hHeld ?_
      case yb2f8 => intro w hSw; go_simp
      simp only [Act.put, zp]
      refine wpAnyH_take (i := 9) (v := undef) rfl (by kernel_rfl) (by kernel_rfl) (by kernel_rfl) (fun _ _ _ h => h) (Or.inr ⟨by rfl, rfl⟩) hHeld ?_
      simp only [Act.put, zp]
      refine wpAnyH_take (i := 10) (v := undef) rfl (by kernel_rfl) (by kernel_rfl) (by kernel_rfl) (fun _ _ _ h => h) (Or.inr ⟨by rfl, rfl⟩) hHeld ?_
      simp only [Act.put, zp]
      refine wpAnyH_take (i := 11) (v := undef) rfl (by kernel_rfl) (by kernel_rfl) (by kernel_rfl) (fun _ _ _ h => h) (Or.inr ⟨by rfl, rfl⟩) hHeld ?_
      simp only [Act.put, zp]
      refine wpAnyH_take (i := 12) (v := undef) rfl (by kernel_rfl) (by kernel_rfl) (by kernel_rfl) (fun _ _ _ h => h) (Or.inr ⟨by rfl, rfl⟩) hHeld ?_
      simp only [Act.put, zp]
      refine wpAnyH_take (i := 13) (v := undef) rfl (by kernel_rfl) (by kernel_rfl) (by kernel_rfl) (fun _ _ _ h => h) (Or.inr ⟨by rfl, rfl⟩) hHeld ?_
      simp only [Act.put, zp]
      refine wpAnyH_take (i := 14) (v := .bool false) rfl (by kernel_rfl) (by kernel_rfl) (by kernel_rfl) (fun _ _ _ h => h) (Or.inl ⟨by rfl, ?yb2f14⟩) hHeld ?_
      case yb2f14 => intro w hSw; go_simp
      simp only [Act.put, zp]
      refine wpAnyH_take (i := 15) (v := .bool false) rfl (by kernel_rfl) (by kernel_rfl) (by kernel_rfl) (fun _ _ _ h => h) (Or.inl ⟨by rfl, ?yb2f15⟩) hHeld ?_
      case yb2f15 => intro w hSw; go_simp
      simp only [Act.put, zp]
      refine wpAnyH_take (i := 16) (v := undef) rfl (by kernel_rfl) (by kernel_rfl) (by kernel_rfl) (fun _ _ _ h => h) (Or.inr ⟨by rfl, rfl⟩) hHeld ?_
      simp only [Act.put, zp]
      refine wpAnyH_take (i := 17) (v := undef) rfl (by kernel_rfl) (by kernel_rfl) (by kernel_rfl) (fun _ _ _ h => h) (Or.inr ⟨by rfl, rfl⟩) hHeld ?_
      simp only [Act.put, zp]
      refine wpAnyH_take (i := 18) (v := undef) rfl (by kernel_rfl) (by kernel_rfl) (by kernel_rfl) (fun _ _ _ h => h) (Or.inr ⟨by rfl, rfl⟩) hHeld ?_
      simp only [Act.put, zp]
      refine wpAnyH_take (i := 19) (v := undef) rfl (by kernel_rfl) (by kernel_rfl) (by kernel_rfl) (fun _ _ _ h => h) (Or.inr ⟨by rfl, rfl⟩) hHeld ?_
      simp only [Act.put, zp]
      refine wpAnyH_take (i := 20) (v := undef) rfl (by kernel_rfl) (by kernel_rfl) (by kernel_rfl) (fun _ _ _ h => h) (Or.inr ⟨by rfl, rfl⟩) hHeld ?_
      simp only [Act.put, zp]
      refine wpAnyH_take (i := 21) (v := undef) rfl (by kernel_rfl) (by kernel_rfl) (by kernel_rfl) (fun _ _ _ h => h) (Or.inr ⟨by rfl, rfl⟩) hHeld ?_
      simp only [Act.put, zp]
      refine wpAnyH_take (i := 22) (v := .bool false) rfl (by kernel_rfl) (by kernel_rfl) (by kernel_rfl) (fun _ _ _ h => h) (Or.inl ⟨by rfl, ?yb2f22⟩) hHeld ?_
      case yb2f22 => intro w hSw; go_simp
      simp only [Act.put, zp]
      refine wpAnyH_take (i := 23) (v := .bool false) rfl (by kernel_rfl) (by kernel_rfl) (by kernel_rfl) (fun _ _ _ h => h) (Or.inl ⟨by rfl, ?yb2f23⟩) hHeld ?_
      case yb2f23 => intro w hSw; go_simp
      simp only [Act.put, zp]
      refine wpAnyH_done (by kernel_rfl) ?_ _
      have EF := hid (and_f E1.out rfl).symm
      have BB := hid (B.out.trans (hHeld.mono B.out.size))
      clear hHeld bd
      go_wp2
      go_ret
      exact ⟨ret_bool EF.out, BB.out⟩
    | true =>
      have E2 := hid (and_t E1.out rfl)
      clear E1
      refine wpAnyH_take (i := 7) (v := .bool true) rfl (by kernel_rfl) (by kernel_rfl) (by kernel_rfl) (fun _ _ _ h => h) (Or.inl ⟨by rfl, ?ys7⟩) hHeld ?_
      case ys7 => intro w hSw; go_simp
      simp only [Act.put, zp]
      refine wpAnyH_take (i := 8) (v := .bool true) rfl (by kernel_rfl) (by kernel_rfl) (by kernel_rfl) (fun _ _ _ h => h) (Or.inl ⟨by rfl, ?ys8⟩) hHeld ?_
      case ys8 => intro w hSw; go_simp
      simp only [Act.put, zp]
      refine wpAnyH_take (i := 9) (v := .pointer (some ⟨w.heap.size, 1, Option.none⟩)) rfl (by kernel_rfl) (by kernel_rfl) (by kernel_rfl) (fun _ _ _ h => h) (Or.inl ⟨by rfl, ?ys9⟩) hHeld ?_
      case ys9 => intro w hSw; go_simp
      simp only [Act.put, zp]
      refine wpAnyH_take (i := 10) (v := .slice vo (slen F) vcap) rfl (by kernel_rfl) (by kernel_rfl) (by kernel_rfl) (fun _ _ _ h => h) (Or.inl ⟨by rfl, ?ys10⟩) hHeld ?_
      case ys10 => intro w hSw; have q := rangeAt_later R.out hSw 1 _ rfl; go_simp
      simp only [Act.put, zp]
      refine wpAnyH_ready (rs := [11]) (by kernel_rfl) (by simp) ?_
      refine AllReadyH.cons rfl (fun K hK => ?_) AllReadyH.nil
      rw [if_pos (by rfl)]
      simp only [zq]
      go_wp2_with fail
      refine (C3.out _ hHeld).mono ?_
      rintro e w7 ⟨v7, rfl, hv7, hb7⟩
      obtain ⟨ya, yc, rfl⟩ := ownShape hv7
      clear hv7
      go_wp2_with fail
      refine hK.out _ _ (hHeld.trans (hb7.mono hHeld.size)) (fun hHeld => ?_)
      refine wpAnyH_take (i := 12) (v := .int .i64 ((nmS 1 F []).length : Int)) rfl (by kernel_rfl) (by kernel_rfl) (by kernel_rfl) (fun _ _ _ h => h) (Or.inl ⟨by rfl, ?ys12⟩) hHeld ?_
      case ys12 => intro w hSw; go_simp
      simp only [Act.put, zp]
      by_cases h6 : ((nmS 1 F []).length : Int) ≤ 6
      · have h6d : decide (((nmS 1 F []).length : Int) ≤ 6) = true := decide_eq_true h6
        refine wpAnyH_take (i := 13) (v := .bool true) rfl (by kernel_rfl) (by kernel_rfl) (by kernel_rfl) (fun _ _ _ h => h) (Or.inl ⟨by rfl, ?yy13⟩) hHeld ?_
        case yy13 => intro w hSw; go_simp
        simp only [Act.put, zp]
        refine wpAnyH_take (i := 14) (v := .bool true) rfl (by kernel_rfl) (by kernel_rfl) (by kernel_rfl) (fun _ _ _ h => h) (Or.inl ⟨by rfl, ?yy14⟩) hHeld ?_
        case yy14 => intro w hSw; go_simp
        simp only [Act.put, zp]
        refine wpAnyH_take (i := 15) (v := .bool true) rfl (by kernel_rfl) (by kernel_rfl) (by kernel_rfl) (fun _ _ _ h => h) (Or.inl ⟨by rfl, ?yy15⟩) hHeld ?_
        case yy15 => intro w hSw; go_simp
        simp only [Act.put, zp]
        refine wpAnyH_take (i := 16) (v := .pointer (some ⟨w.heap.size, 0, Option.none⟩)) rfl (by kernel_rfl) (by kernel_rfl) (by kernel_rfl) (fun _ _ _ h => h) (Or.inl ⟨by rfl, ?yy16⟩) hHeld ?_
        case yy16 => intro w hSw; go_simp
        simp only [Act.put, zp]
        refine wpAnyH_take (i := 17) (v := .slice ao ts.length cap) rfl (by kernel_rfl) (by kernel_rfl) (by kernel_rfl) (fun _ _ _ h => h) (Or.inl ⟨by rfl, ?yy17⟩) hHeld ?_
        case yy17 => intro w hSw; have q := rangeAt_later R.out hSw 0 _ rfl; go_simp
        simp only [Act.put, zp]
        refine wpAnyH_take (i := 19) (v := .pointer (some ⟨w.heap.size, 1, Option.none⟩)) rfl (by kernel_rfl) (by kernel_rfl) (by kernel_rfl) (fun _ _ _ h => h) (Or.inl ⟨by rfl, ?yy19⟩) hHeld ?_
        case yy19 => intro w hSw; go_simp
        simp only [Act.put, zp]
        refine wpAnyH_take (i := 20) (v := .slice vo (slen F) vcap) rfl (by kernel_rfl) (by kernel_rfl) (by kernel_rfl) (fun _ _ _ h => h) (Or.inl ⟨by rfl, ?yy20⟩) hHeld ?_
        case yy20 => intro w hSw; have q := rangeAt_later R.out hSw 1 _ rfl; go_simp
        simp only [Act.put, zp]
        refine wpAnyH_ready (rs := [18]) (by kernel_rfl) (by simp) ?_
        refine AllReadyH.cons rfl (fun K hK => ?_) AllReadyH.nil
        rw [if_pos (by rfl)]
        simp only [zq]
        go_wp2_with fail
        refine (C4.out _ hHeld).mono ?_
        rintro e w8 ⟨rfl, hT8, hA8, hb8⟩
        have H78 := hid hHeld
        go_wp2_with fail
        refine hK.out _ _ (hHeld.trans (hb8.mono hHeld.size)) (fun hHeld => ?_)
        refine wpAnyH_ready (rs := [21]) (by kernel_rfl) (by simp) ?_
        refine AllReadyH.cons rfl (fun K hK => ?_) AllReadyH.nil
        rw [if_pos (by rfl)]
        simp only [zq]
        go_wp2_with fail
        refine (C5.out (by first | exact rfl | trivial) (by first | exact rfl | trivial) w7 w8 H78.out hb8 hT8 hA8).mono ?_
        rintro e w9 ⟨b9, rfl, h9, hg9⟩
        go_wp2_with fail
        refine hK.out _ _ (hHeld.trans (hg9.below (by have := H78.out.size; omega) (by have := hHeld.size; omega))) (fun hHeld => ?_)
        have EQ := hid (show A = b9 by rw [← E2.out, Bool.eq_iff_iff, HN.out, h9]; exact ⟨fun c => c.1, fun c => ⟨c, by omega⟩⟩)
        clear h9 hg9 hT8 hA8 hb8
        refine wpAnyH_take (i := 22) (v := .bool b9) rfl (by kernel_rfl) (by kernel_rfl) (by kernel_rfl) (fun _ _ _ h => h) (Or.inl ⟨by rfl, ?yy22⟩) hHeld ?_
        case yy22 => intro w hSw; go_simp
        simp only [Act.put, zp]
        refine wpAnyH_take (i := 23) (v := .bool b9) rfl (by kernel_rfl) (by kernel_rfl) (by kernel_rfl) (fun _ _ _ h => h) (Or.inl ⟨by rfl, ?yy23⟩) hHeld ?_
        case yy23 => intro w hSw; go_simp
        simp only [Act.put, zp]
        refine wpAnyH_done (by kernel_rfl) ?_ _
        have BB := hid (B.out.trans (hHeld.mono B.out.size))
        clear hHeld bd
        go_wp2
        go_ret
        exact ⟨ret_bool EQ.out.symm, BB.out⟩
      · have h6d : decide (((nmS 1 F []).length : Int) ≤ 6) = false := decide_eq_false h6
        refine wpAnyH_take (i := 13) (v := .bool false) rfl (by kernel_rfl) (by kernel_rfl) (by kernel_rfl) (fun _ _ _ h => h) (Or.inl ⟨by rfl, ?yh13⟩) hHeld ?_
        case yh13 => intro w hSw; go_simp
        simp only [Act.put, zp]
        refine wpAnyH_take (i := 14) (v := .bool false) rfl (by kernel_rfl) (by kernel_rfl) (by kernel_rfl) (fun _ _ _ h => h) (Or.inl ⟨by rfl, ?yhf14⟩) hHeld ?_
        case yhf14 => intro w hSw; go_simp
        simp only [Act.put, zp]
        refine wpAnyH_take (i := 15) (v := .bool false) rfl (by kernel_rfl) (by kernel_rfl) (by kernel_rfl) (fun _ _ _ h => h) (Or.inl ⟨by rfl, ?yhf15⟩) hHeld ?_
        case yhf15 => intro w hSw; go_simp
        simp only [Act.put, zp]
        refine wpAnyH_take (i := 16) (v := undef) rfl (by kernel_rfl) (by kernel_rfl) (by kernel_rfl) (fun _ _ _ h => h) (Or.inr ⟨by rfl, rfl⟩) hHeld ?_
        simp only [Act.put, zp]
        refine wpAnyH_take (i := 17) (v := undef) rfl (by kernel_rfl) (by kernel_rfl) (by kernel_rfl) (fun _ _ _ h => h) (Or.inr ⟨by rfl, rfl⟩) hHeld ?_
        simp only [Act.put, zp]
        refine wpAnyH_take (i := 18) (v := undef) rfl (by kernel_rfl) (by kernel_rfl) (by kernel_rfl) (fun _ _ _ h => h) (Or.inr ⟨by rfl, rfl⟩) hHeld ?_
        simp only [Act.put, zp]
        refine wpAnyH_take (i := 19) (v := undef) rfl (by kernel_rfl) (by kernel_rfl) (by kernel_rfl) (fun _ _ _ h => h) (Or.inr ⟨by rfl, rfl⟩) hHeld ?_
        simp only [Act.put, zp]
        refine wpAnyH_take (i := 20) (v := undef) rfl (by kernel_rfl) (by kernel_rfl) (by kernel_rfl) (fun _ _ _ h => h) (Or.inr ⟨by rfl, rfl⟩) hHeld ?_
        simp only [Act.put, zp]
        refine wpAnyH_take (i := 21) (v := undef) rfl (by kernel_rfl) (by kernel_rfl) (by kernel_rfl) (fun _ _ _ h => h) (Or.inr ⟨by rfl, rfl⟩) hHeld ?_
        simp only [Act.put, zp]
        refine wpAnyH_take (i := 22) (v := .bool false) rfl (by kernel_rfl) (by kernel_rfl) (by kernel_rfl) (fun _ _ _ h => h) (Or.inl ⟨by rfl, ?yhf22⟩) hHeld ?_
        case yhf22 => intro w hSw; go_simp
        simp only [Act.put, zp]
        refine wpAnyH_take (i := 23) (v := .bool false) rfl (by kernel_rfl) (by kernel_rfl) (by kernel_rfl) (fun _ _ _ h => h) (Or.inl ⟨by rfl, ?yhf23⟩) hHeld ?_
        case yhf23 => intro w hSw; go_simp
        simp only [Act.put, zp]
        refine wpAnyH_done (by kernel_rfl) ?_ _
        have EF := hid (show false = A by rw [← E2.out]; symm; rw [← Bool.not_eq_true, HN.out]; intro c; exact h6 (by omega))
        have BB := hid (B.out.trans (hHeld.mono B.out.size))
        clear hHeld bd
        go_wp2
        go_ret
        exact ⟨ret_bool EF.out, BB.out⟩
end Go.Proofs.YtfoghiminlbdaaaGreat
namespace Go.Proofs.YtfoghiminlbdaaaGreat
open Go.RowKit Go.Lib
set_option linter.unusedSimpArgs false
set_option linter.unusedVariables false
theorem idxGo_mem {s : ByteArray} : ∀ (ns : List ByteArray) (j : Nat), s ∈ ns → ∃ k : Nat, idxGo ns j s = (k : Int) ∧ k < j + ns.length
  | [], _, h => by simp at h
  | t :: ts, j, h => by
    rw [idxGo]
    by_cases e : t = s
    · rw [if_pos e]; exact ⟨j, rfl, by simp⟩
    · rw [if_neg e]
      rcases List.mem_cons.1 h with h | h
      · exact absurd h.symm e
      · obtain ⟨k, h1, h2⟩ := idxGo_mem ts (j + 1) h
        exact ⟨k, h1, by simp only [List.length_cons]; omega⟩
theorem rdyS_of {ns : List ByteArray} {h : SH} (hh : headOk h = true) (hm : h.k = 1 → h.s ∈ ns) : rdyS ns ns.length h := by
  unfold headOk at hh
  split at hh
  · rename_i hk
    simp only [Bool.and_eq_true, expOk] at hh
    obtain ⟨k, e1, e2⟩ := idxGo_mem ns 0 (hm hk)
    exact .inl ⟨hk, hh.2.1.1, k, e1, by omega⟩
  · split at hh
    · rename_i hk
      simp only [Bool.and_eq_true, expOk] at hh
      exact .inr (.inl ⟨hk, hh.2.1.1.1, hh.2.1.2.1⟩)
    · split at hh
      · rename_i hk
        simp only [Bool.and_eq_true, expOk] at hh
        exact .inr (.inr (.inl ⟨hk, hh.2.1.1.1, hh.2.1.2.1⟩))
      · split at hh
        · rename_i hk
          simp only [Bool.and_eq_true, expOk] at hh
          exact .inr (.inr (.inr ⟨hk, hh.2.1.1⟩))
        · cases hh
theorem rdyF_of {ns : List ByteArray} : ∀ (d : Nat) (F : SF), toldS d F = true → (∀ a ∈ sall F, a.1.k = 1 → a.1.s ∈ ns) → rdyF ns ns.length F
  | _, .nil, _, _ => trivial
  | d, .node p q h l r, ht, hm => by
    rw [toldS_node, Bool.and_eq_true] at ht
    unfold toldSt at ht
    rw [Bool.and_eq_true] at ht
    refine ⟨rdyS_of ht.1.1 (hm (h, l) (by simp [sall])), ?_, rdyF_of d r ht.2 (fun a ha => hm a (by simp [sall, ha]))⟩
    have h2 := ht.1.2
    split at h2
    · simp only [bodyTold, Bool.and_eq_true] at h2
      exact rdyF_of (d - 1) l h2.2.2.2 (fun a ha => hm a (by simp [sall, ha]))
    · cases l with
      | nil => trivial
      | node _ _ _ _ _ => simp [slen] at h2
def fuelN (n : Int) : Nat := if 0 ≤ n ∧ n ≤ 4000 then n.toNat else 0
theorem fuelN_le (n : Int) : fuelN n ≤ 4000 := by unfold fuelN; split <;> omega
def run0 (ts : List AR) (F : SF) (n : Int) : St := ⟨zrows ts, List.replicate (nmS 1 F []).length 0, [], fuelN n⟩
def runR (ts : List AR) (F : SF) (n : Int) : Nat × St := if progB ts F = true then exec ts (nmS 1 F []) (fuelN n + 1) [] (.inl F) (run0 ts F n) else (1, ⟨[], [], [], 0⟩)
theorem prog_few {ts : List AR} {F : SF} (h : progB ts F = true) : ts.length ≤ 4 ∧ snodes F ≤ 40 ∧ toldS 3 F = true := by
  unfold progB headB at h
  simp only [Bool.and_eq_true, decide_eq_true_eq] at h
  exact ⟨h.1.2.2.1, h.1.2.2.2.2, stmts_told F h.1.2.1⟩
theorem prog_ok {ts : List AR} {F : SF} (h : progB ts F = true) : rdyF (nmS 1 F []) (nmS 1 F []).length F := by
  refine rdyF_of 3 F (prog_few h).2.2 fun a ha hk => ?_
  exact ((nmS_names 1 F [] List.Pairwise.nil).2 _).2 (.inr ⟨a, ha, by rw [ofKind, if_pos hk]⟩)
theorem vars_few {ts : List AR} {F : SF} (h : progB ts F = true) : (nmS 1 F []).length ≤ 40 := by
  have h1 := nmS_len 1 F []
  have h2 := (prog_few h).2.1
  simp at h1; omega
theorem nz_mem {n x : Int} (h : x ∈ nz n) : x = 0 := by
  unfold nz at h
  split at h
  · simp at h; try exact h.2
  · simp at h; try exact h.2
theorem run0_fine {ts : List AR} {F : SF} (h : progB ts F = true) (n : Int) : Fine ts (nmS 1 F []) (nmS 1 F []).length [] (run0 ts F n) := by
  obtain ⟨h1, h2, _⟩ := prog_few h
  have h3 := vars_few h
  have h4 := fuelN_le n
  refine ⟨⟨by omega, by omega, ?_, ?_, ?_, h4⟩, ?_, ?_, ?_, ?_, ?_, by show (zrows ts).length = _; simp [zrows]⟩
  · show (zrows ts).length ≤ _; simp [zrows]; omega
  · intro xs hx
    simp only [run0, zrows, List.mem_map] at hx
    obtain ⟨t, _, rfl⟩ := hx
    have := nz_len t.n
    omega
  · show (List.replicate _ _).length ≤ _; simp; omega
  · intro xs hx x hxx
    simp only [run0, zrows, List.mem_map] at hx
    obtain ⟨t, _, rfl⟩ := hx
    rw [nz_mem hxx]; exact wd_zero
  · intro x hx
    simp only [run0, List.mem_replicate] at hx
    rw [hx.2]; exact wd_zero
  · intro b hb; simp at hb
  · show ([] : List Int).length + fuelN n ≤ 4000; simpa using h4
  · show (List.replicate _ _).length = _; simp
end Go.Proofs.YtfoghiminlbdaaaGreat
