/-
  Texts in one: ProgImpl, NameLoop, NameAsked, AstArrAt.
-/
import Derived.Test.YtkhccpjkajhnpaaGreatP20ofFnChecks
import Derived.Test.YtkhccpjkajhnpaaGreatProgArrs
import Derived.Test.YtkhccpjkajhnpaaGreatP17ofFnChecks
import Derived.Test.YtkhccpjkajhnpaaGreatP19ofFnChecks
import Derived.Test.YtkhccpjkajhnpaaGreatP05ofFnChecks
/-
  The contracts of the landed code's stmtsOk, namingOf and ProgOk.
-/
namespace Go.Proofs.YtkhccpjkajhnpaaGreat
open Go.RowKit Go.Lib Go.Maps Go.Sort Go.WideMaps
set_option linter.unusedSimpArgs false
set_option linter.unusedVariables false

theorem all9_of : ∀ F : SF, ssize F ≤ 4000000 → all9 F
  | .nil, _ => trivial
  | .node _ _ h l r, e => by
    simp only [ssize, hsize, xsize] at e
    have a1 := enodes_le h.x1.l; have a2 := enodes_le h.x2.l; have a3 := enodes_le h.x3.l; have a4 := enodes_le h.x4.l
    exact ⟨⟨by omega, by omega, by omega, by omega⟩, all9_of l (by omega), all9_of r (by omega)⟩
theorem small9_of {h : SH} (e : hsize h ≤ 4000000) : small9 h := by
  simp only [hsize, xsize] at e
  have a1 := enodes_le h.x1.l; have a2 := enodes_le h.x2.l; have a3 := enodes_le h.x3.l; have a4 := enodes_le h.x4.l
  exact ⟨by omega, by omega, by omega, by omega⟩
set_option maxHeartbeats 4000000 in
set_option maxRecDepth 100000 in
theorem stmtsOk_is (F : SF) (hS : ssize F ≤ 1048576) (A : Bool) (hA : (decide (slen F ≤ 12) && (stmtsB F && decide (snodes F ≤ 40))) = A) (v : Value) (w : World) (hv : SV w 0 F v) :
    Calls Tryz.prog 33 #[v] w fun e w' => e = .returned (.bool A) ∧ Below w.heap.size w w' := by
  have Hv := Lib.hid hv
  have hF := Nat.le_trans (snodes_le F) hS
  have hlF := Nat.le_trans (slen_le F) hF
  obtain ⟨b, o, ao, cap, rfl, hao, _, hin⟩ := hv
  have HA0 := Lib.hid hA
  clear hA
  by_cases h12 : (slen F : Int) ≤ 12
  · have h12' : ¬ (12 : Int) < (slen F : Int) := by omega
    have HA := Lib.hid (and_t HA0.out (decide_eq_true (by omega)))
    clear HA0
    go_enter Tryz.func33, Tryz.ntmps33
    go_wp2
    go_loopw [10] (fun i wr => ∃ (R : SF) (j : Nat), i = .int .i64 (j : Int) ∧ Hid (j + slen R = slen F ∧ (stmtsB R && decide (snodes F ≤ 40)) = A ∧ ssize R ≤ 1048576 ∧ SIn w 0 R b (o + j * 19)) ∧ Hid (Below w.heap.size w wr)) (fun i _ => slen F - (RowKit.intOf i).toNat)
    case atStart => exact ⟨F, 0, rfl, ⟨by omega, HA.out, hS, by simpa using hin⟩, Below.refl _ _⟩
    case round =>
      obtain ⟨R, j, rfl, hr, hbw⟩ := hrel
      obtain ⟨e1, e2, e3, e4⟩ := hr.out
      clear HA hr
      cases R with
      | nil =>
        have hk : ¬ (j : Int) < (slen F : Int) := by simp only [slen] at e1; omega
        have E := Lib.hid (show decide (snodes F ≤ 40) = A from e2)
        have CS := Lib.hid (impl_Size F (by omega) wr _ (Hv.out.later hbw.out))
        clear e2 e4 hin
        go_wp2_with fail
        refine CS.out.mono ?_
        rintro e w3 ⟨rfl, hb3⟩
        have B3 := Lib.hid (hbw.out.trans (hb3.mono hbw.out.size))
        clear hb3 CS
        by_cases h40 : (snodes F : Int) ≤ 40
        · have E3 := Lib.hid (show true = A by rw [← E.out, decide_eq_true (by omega)])
          have hd40 : decide ((snodes F : Int) ≤ 40) = true := decide_eq_true h40
          go_wp2
          go_ret
          exact ⟨ret_bool (by first | exact E3.out | (rw [hd40]; exact E3.out)), B3.out⟩
        · have E3 := Lib.hid (show false = A by rw [← E.out, decide_eq_false (by omega)])
          have hd40 : decide ((snodes F : Int) ≤ 40) = false := decide_eq_false h40
          go_wp2
          go_ret
          exact ⟨ret_bool (by first | exact E3.out | (rw [hd40]; exact E3.out)), B3.out⟩
      | node p q h l r =>
        have hlt : (j : Int) < (slen F : Int) := by simp only [slen] at e1; omega
        have hne : ¬ F = .nil := by intro e; subst e; simp only [slen] at e1; omega
        obtain rfl : ao = some ⟨b, o, Option.none⟩ := hao.resolve_right hne
        have hr0 := Lib.hid (SIn_node.1 e4).2
        obtain ⟨v1, v2, v3, v4, u, hv0, hu0, hrg⟩ := SC.range (SC.later (SIn_node.1 e4).1 hbw.out)
        simp only [ssize] at e3
        have hn5 := snodes_le l
        have Hrg := Lib.hid hrg
        have o1 := hv0.e1.isOne; have o2 := hv0.e2.isOne; have o3 := hv0.e3.isOne; have o4 := hv0.e4.isOne; have o5 := hu0.isOne
        have He := Lib.hid (And.intro e1 (And.intro (show (stmtOk h l && (stmtsB r && decide (snodes F ≤ 40))) = A by rw [← Bool.and_assoc]; exact e2) e3))
        obtain ⟨bs, Hbs⟩ : ∃ bs, Hid (stmtOk h l = bs) := ⟨_, rfl⟩
        have CS : Hid (∀ W, Below wr.heap.size wr W → Calls Tryz.prog 51 #[.agg (scells h v1 v2 v3 v4 u).toArray] W fun e w' => e = .returned (.bool bs) ∧ Below W.heap.size W w') := Lib.hid (fun W hW => by rw [← Hbs.out]; exact impl_StmtOk h l (small9_of (by omega)) (all9_of l (by omega)) (by omega) W v1 v2 v3 v4 u (hv0.later hW) (hu0.later hW))
        clear e1 e2 e3 e4 hin hne hao hrg hv0 hu0
        go_wp2_with (first | (refine wpList_load_mid rfl 49 _ rfl b (o + j * 19) rfl _ _ Hrg.out Tryz.underlying49 rfl sizeIS ?_) | (refine store_abs rfl 49 _ _ rfl _ _ _ rfl rfl ?ht sizeIS ?ho ?_; exact (newthere wr _); exact (oneS h v1 v2 v3 v4 _ o1 o2 o3 o4 o5); intro W hW; have HW := Lib.hid (newblkS h v1 v2 v3 v4 _ hW); clear hW) | (refine wpList_load_mid rfl 49 _ rfl wr.heap.size 0 rfl _ _ HW.out.1 Tryz.underlying49 rfl sizeIS ?_))
        refine (CS.out W HW.out.2).mono ?_
        rintro e w3 ⟨rfl, hb3⟩
        have B3 := Lib.hid (hbw.out.trans ((HW.out.2.trans (hb3.mono HW.out.2.size)).mono hbw.out.size))
        clear hb3 CS Hrg HW
        cases bs with
        | false =>
          have E := Lib.hid (and_f He.out.2.1 Hbs.out)
          go_wp2
          go_ret
          exact ⟨ret_bool E.out.symm, B3.out⟩
        | true =>
          have E := Lib.hid (and_t He.out.2.1 Hbs.out)
          go_wp2
          go_roundw
          case rel => exact ⟨r, j + 1, by go_num, ⟨by have := He.out.1; simp only [slen] at this; omega, E.out, by have := He.out.2.2; omega, by rw [show o + (j + 1) * 19 = o + j * 19 + 19 by omega]; exact hr0.out⟩, B3⟩
          case measure => simp [RowKit.intOf]; omega
  · have h12' : (12 : Int) < (slen F : Int) := by omega
    have h1 := Lib.hid (and_f HA0.out (decide_eq_false (by omega)))
    go_enter Tryz.func33, Tryz.ntmps33
    go_wp2
    go_ret
    exact ⟨ret_bool h1.out.symm, Below.refl _ _⟩
/-- What a name is when only the arrays have been gone through. -/
def hasB (ns : List ByteArray) (s : ByteArray) : Bool := ns.any (fun t => decide (t = s))
theorem hasB_iff (ns : List ByteArray) (s : ByteArray) : hasB ns s = true ↔ s ∈ ns := by
  unfold hasB; rw [List.any_eq_true]
  constructor
  · rintro ⟨t, ht, e⟩; rw [decide_eq_true_eq] at e; exact e ▸ ht
  · intro h; exact ⟨s, h, by simp⟩
def arrT (ns : List ByteArray) : ByteArray → Int := fun s => if hasB ns s = true then 1 else 0
theorem arrT_in {ns : List ByteArray} {s : ByteArray} (h : s ∈ ns) : arrT ns s = 1 := if_pos ((hasB_iff ns s).2 h)
theorem arrT_out {ns : List ByteArray} {s : ByteArray} (h : ¬ s ∈ ns) : arrT ns s = 0 := if_neg (fun c => h ((hasB_iff ns s).1 c))
theorem arrT_TT (ns : List ByteArray) : TT ns [] (arrT ns) := by
  refine ⟨fun s => ?_, fun s => ?_, fun s => ?_, fun s => ?_⟩
  all_goals by_cases h : s ∈ ns
  all_goals first | (rw [arrT_in h]; simp [h]) | (rw [arrT_out h]; simp [h])
theorem arrT_snoc (ns : List ByteArray) (x s : ByteArray) : (if s = x then 1 else arrT ns s) = arrT (ns ++ [x]) s := by
  by_cases e : s = x
  · rw [if_pos e, arrT_in (by simp [e])]
  · rw [if_neg e]
    by_cases h : s ∈ ns
    · rw [arrT_in h, arrT_in (by simp [h])]
    · rw [arrT_out h, arrT_out (by simp [h, e])]
theorem rd_made (w : World) : Rd (w.alloc (.map #[] 0)) w.heap.size 0 (fun _ => 0) := ⟨.map [], World.ownsMap_made (H := Unit) w Tryz.prog 9 (plainElem Tryz.prog 3), fun s => rfl⟩
/-- Four blocks that were just laid. -/
theorem nm_start (w : World) (a d : Obj) : Rd ((((w.alloc a).alloc (.map #[] 0)).alloc (.map #[] 0)).alloc d) (w.heap.size + 1) 0 (arrT []) ∧ Rd ((((w.alloc a).alloc (.map #[] 0)).alloc (.map #[] 0)).alloc d) (w.heap.size + 2) 0 (asInt fun _ => false) ∧
    ((((w.alloc a).alloc (.map #[] 0)).alloc (.map #[] 0)).alloc d).heap[w.heap.size]? = some a ∧ ((((w.alloc a).alloc (.map #[] 0)).alloc (.map #[] 0)).alloc d).heap[w.heap.size + 3]? = some d ∧ Below w.heap.size w ((((w.alloc a).alloc (.map #[] 0)).alloc (.map #[] 0)).alloc d) := by
  have s1 : (w.alloc a).heap.size = w.heap.size + 1 := by simp
  have s2 : ((w.alloc a).alloc (.map #[] 0)).heap.size = w.heap.size + 2 := by simp
  have s3 : (((w.alloc a).alloc (.map #[] 0)).alloc (.map #[] 0)).heap.size = w.heap.size + 3 := by simp
  have r1 := rd_made (w.alloc a)
  have r2 := rd_made ((w.alloc a).alloc (.map #[] 0))
  rw [s1] at r1
  rw [s2] at r2
  refine ⟨?_, ?_, ?_, ?_, ?_⟩
  · refine Rd.as ((r1.below (alloc_below _ _)).below (alloc_below _ _)) (fun s => (arrT_out (by simp)).symm)
  · exact Rd.as (r2.below (alloc_below _ _)) (fun s => rfl)
  · rw [Below.heap_alloc _ _ _ (by omega), Below.heap_alloc _ _ _ (by omega), Below.heap_alloc _ _ _ (by omega)]; exact heap_last w a
  · have := heap_last (((w.alloc a).alloc (.map #[] 0)).alloc (.map #[] 0)) d; rwa [s3] at this
  · exact (((alloc_below w a).alloc (by omega) _).alloc (by omega) _).alloc (by omega) _
set_option maxHeartbeats 4000000 in
set_option maxRecDepth 100000 in
theorem namingOf_is (ts : List AR) (hn : ts.length ≤ 1048576) (hts : ∀ t ∈ ts, t.s.size ≤ 1048576) (va : Value) (w : World) (ha : AV w 0 va ts) :
    Calls Tryz.prog 34 #[va] w fun e w' => e = .returned (nam (w.heap.size + 1) (w.heap.size + 2)) ∧ Rd w' (w.heap.size + 1) ts.length (arrT (arrNames ts)) ∧ Rd w' (w.heap.size + 2) 0 (asInt fun _ => false) ∧ Below w.heap.size w w' := by
  have hmm := @run_makeMap Tryz.prog
  have Ha := Lib.hid ha
  have Ht := Lib.hid hts
  obtain ⟨ao, cap, rfl⟩ := ha.shape
  have N0 := Lib.hid (nm_start w (.cells #[.map Option.none, .map Option.none] 60) (.cells #[.map (some (w.heap.size + 1)), .map (some (w.heap.size + 2))] 60))
  clear ha hts
  go_enter Tryz.func34, Tryz.ntmps34
  go_wp2
  go_loopw [11] (fun i wr => ∃ k : Nat, k ≤ ts.length ∧ i = .int .i64 k ∧ Hid (Rd wr (w.heap.size + 1) k (arrT (arrNames (ts.take k)))) ∧ Hid (Rd wr (w.heap.size + 2) 0 (asInt fun _ => false) ∧ wr.heap[w.heap.size]? = some (.cells #[.map Option.none, .map Option.none] 60) ∧ wr.heap[w.heap.size + 3]? = some (.cells #[.map (some (w.heap.size + 1)), .map (some (w.heap.size + 2))] 60) ∧ Below w.heap.size w wr)) (fun i _ => ts.length - (RowKit.intOf i).toNat)
  case atStart => exact ⟨0, by omega, rfl, N0.out.1, N0.out.2.1, N0.out.2.2.1, N0.out.2.2.2.1, N0.out.2.2.2.2⟩
  case round =>
    obtain ⟨k, hk, rfl, hR, hrest⟩ := hrel
    clear N0
    obtain ⟨⟨q0, q1⟩, f0, f1⟩ := blk2 hrest.out.2.2.1
    by_cases hlt : k < ts.length
    · have hltI : (k : Int) < (ts.length : Int) := by omega
      have hkI : (k : Int) < 10000000 := by omega
      obtain ⟨t, ht⟩ : ∃ t, ts[k]? = some t := ⟨ts[k], List.getElem?_eq_getElem hlt⟩
      obtain ⟨g, off, cap', hvv, hcells⟩ := arrAt_cells (Ha.out.later hrest.out.2.2.2) (by intro e; subst e; simp at hlt)
      injection hvv with e1 e2 e3
      subst e1
      clear e2 e3
      have c0 := (hcells k t ht).1
      have c1 := (hcells k t ht).2
      have hE := Lib.hid (arrNames_take ht)
      have hkey := keyS (s := t.s) (Nat.le_trans (Ht.out t (List.mem_of_getElem? ht)) (by omega))
      have Q0 : ∀ o, (wr.alloc o).cell? ⟨w.heap.size + 3, 0, Option.none⟩ = some (.map (some (w.heap.size + 1))) := fun o => keeps (alloc_below _ _) q0
      have BW := Lib.hid (fun o => alloc_below wr o)
      have hlt2 := lt_heap hrest.out.2.2.1
      obtain ⟨D, hown, hat0⟩ := hR.out.below (alloc_below wr (.cells #[.string t.s, .int .i64 t.n] 63))
      have HO := Lib.hid hown
      have HA0 := Lib.hid hat0
      have hD := Lib.hid (hown.tidy keyLaw).isMap
      clear hown hat0 hcells ht
      go_wp2_with (first
        | (at_mapUpdate; refine wpList_mapUpdate_own _ rfl _ _ _ 43 rfl 9 3 keyLaw Tryz.underlying43 _ (w.heap.size + 1) k _ rfl HO.out (by unfold maxLen; omega) _ _ _ rfl rfl hkey _ [] (plainElem_int (a := 1) Tryz.underlying3 (by decide)) ?_)
        | go_in)
      intro w1 ho1 hg1
      have hR1 : Hid (Rd w1 (w.heap.size + 1) (k + 1) (arrT (arrNames (ts.take (k + 1))))) := Lib.hid (Rd.as ⟨_, ho1, rd_put hD.out HA0.out t.s 1⟩ (fun s => by rw [hE.out]; exact arrT_snoc _ _ _))
      have hblk := fun (i : Nat) (h1 : i < wr.heap.size) (h2 : i ≠ w.heap.size + 1) => (hg1.block i (by simp; omega) (fun e => by injection e with e; exact h2 e)).trans ((BW.out _).block i h1)
      have HR1 := Lib.hid (show Rd w1 (w.heap.size + 2) 0 (asInt fun _ => false) ∧ w1.heap[w.heap.size]? = some (.cells #[.map Option.none, .map Option.none] 60) ∧ w1.heap[w.heap.size + 3]? = some (.cells #[.map (some (w.heap.size + 1)), .map (some (w.heap.size + 2))] 60) ∧ Below w.heap.size w w1 from
        ⟨hrest.out.1.block (hblk _ hrest.out.1.lt (by omega)), (hblk _ (by omega) (by omega)).trans hrest.out.2.1, (hblk _ hlt2 (by omega)).trans hrest.out.2.2.1, ⟨hg1.os.trans ((BW.out _).os.trans hrest.out.2.2.2.os), hg1.tape.trans ((BW.out _).tape.trans hrest.out.2.2.2.tape), hg1.output.trans ((BW.out _).output.trans hrest.out.2.2.2.output), by have := hg1.size; have := hrest.out.2.2.2.size; simp at *; omega, fun i hi => (hblk i (by omega) (by omega)).trans (hrest.out.2.2.2.block i hi)⟩⟩)
      clear ho1 hg1 hblk q0 q1 c0 c1 f0 f1 Q0
      go_wp2
      go_roundw
      case rel => exact ⟨k + 1, by omega, by go_num, hR1, HR1⟩
      case measure => simp [RowKit.intOf]; omega
    · have hke : k = ts.length := by omega
      obtain ⟨⟨z0, z1⟩, g0, g1⟩ := blk2 hrest.out.2.1
      have hRR := Lib.hid (show Rd wr (w.heap.size + 1) ts.length (arrT (arrNames ts)) by have := hR.out; rw [hke, List.take_of_length_le (Nat.le_refl _)] at this; exact this)
      have hlt2 := lt_heap hrest.out.2.2.1
      clear hR hke
      go_wp2
      refine bodyPost_ret (v := nam (w.heap.size + 1) (w.heap.size + 2)) (by simp [results, Tryz.results34, go_sem, z0, z1, hlt2]) rfl ⟨rfl, ?_, ?_, ?_⟩
      · refine hRR.out.block ?_
        rw [Below.heap_setCell _ _ _ _ (by show w.heap.size + 1 ≠ w.heap.size; omega), Below.heap_setCell _ _ _ _ (by show w.heap.size + 1 ≠ w.heap.size; omega)]
      · refine hrest.out.1.block ?_
        rw [Below.heap_setCell _ _ _ _ (by show w.heap.size + 2 ≠ w.heap.size; omega), Below.heap_setCell _ _ _ _ (by show w.heap.size + 2 ≠ w.heap.size; omega)]
      · exact (hrest.out.2.2.2.setCell (p := ⟨w.heap.size, 0, Option.none⟩) (by simp) _).setCell (p := ⟨w.heap.size, 1, Option.none⟩) (by simp) _
theorem prog_eq (ts : List AR) (F : SF) : progB ts F = ((decide (ts.length ≤ 4) && arrsB Option.none ts) && ((decide (slen F ≤ 12) && (stmtsB F && decide (snodes F ≤ 40))) && (namesB ts F))) := by
  unfold progB headB
  cases arrsB Option.none ts <;> cases stmtsB F <;> cases decide (ts.length ≤ 4) <;> cases decide (slen F ≤ 12) <;> cases decide (snodes F ≤ 40) <;> rfl
set_option maxHeartbeats 4000000 in
set_option maxRecDepth 100000 in
theorem impl_ProgOk (ts : List AR) (hn : ts.length ≤ 1048576) (hts : ∀ t ∈ ts, t.s.size ≤ 1048576) (F : SF) (hS : ssize F ≤ 1048576) (va vb : Value) (w : World) (ha : AV w 0 va ts) (hv : SV w 0 F vb) :
    Calls Tryz.prog 10 #[.agg #[va, vb]] w fun e w' => e = .returned (.bool (progB ts F)) ∧ Below w.heap.size w w' := by
  have Ha := Lib.hid ha
  have Hv := Lib.hid hv
  have hF := Nat.le_trans (snodes_le F) hS
  obtain ⟨ao, cap, rfl⟩ := ha.shape
  obtain ⟨vo, vcap, rfl⟩ := hv.shape
  obtain ⟨A, HA⟩ : ∃ A, Hid (progB ts F = A) := ⟨_, rfl⟩
  obtain ⟨b1, H1⟩ : ∃ b, Hid ((decide (ts.length ≤ 4) && arrsB Option.none ts) = b) := ⟨_, rfl⟩
  obtain ⟨b2, H2⟩ : ∃ b, Hid ((decide (slen F ≤ 12) && (stmtsB F && decide (snodes F ≤ 40))) = b) := ⟨_, rfl⟩
  have EE := Lib.hid (show (b1 && (b2 && namesB ts F)) = A by rw [← HA.out, prog_eq, H1.out, H2.out])
  rw [HA.out]
  obtain ⟨w1, W1⟩ : ∃ w1, Hid (w1 = w.alloc (.cells #[.slice ao ts.length cap, .slice vo (slen F) vcap] 27)) := ⟨_, rfl⟩
  have B := Lib.hid (show Below w.heap.size w w1 by rw [W1.out]; exact alloc_below w _)
  have R : Hid (w1.rangeAt w.heap.size 0 [.slice ao ts.length cap, .slice vo (slen F) vcap]) := Lib.hid (by rw [W1.out]; exact blk_range (arr := #[.slice ao ts.length cap, .slice vo (slen F) vcap]) (heap_last _ _))
  have HAv := Lib.hid (Ha.out.later B.out)
  have HSv := Lib.hid (Hv.out.later B.out)
  have C1 : Hid (∀ w', Below w1.heap.size w1 w' → Calls Tryz.prog 32 #[.slice ao ts.length cap] w' fun e w'' => e = .returned (.bool b1) ∧ Below w'.heap.size w' w'') := fun w' hb => arrsOk_is ts hn b1 H1.out _ w' (HAv.out.later hb)
  have C2 : Hid (∀ w', Below w1.heap.size w1 w' → Calls Tryz.prog 33 #[.slice vo (slen F) vcap] w' fun e w'' => e = .returned (.bool b2) ∧ Below w'.heap.size w' w'') := fun w' hb => stmtsOk_is F hS b2 H2.out _ w' (HSv.out.later hb)
  have C3 : Hid (∀ w', Below w1.heap.size w1 w' → Calls Tryz.prog 7 #[.slice vo (slen F) vcap] w' (GoodNames w' (nmS 1 F []))) := fun w' hb => impl_VarsOf F (by omega) (fun n hn => Nat.le_trans (sall_small F n hn) (by omega)) w' _ (HSv.out.later hb)
  have C4 : Hid (∀ w', Below w1.heap.size w1 w' → Calls Tryz.prog 34 #[.slice ao ts.length cap] w' fun e w'' => e = .returned (nam (w'.heap.size + 1) (w'.heap.size + 2)) ∧ Rd w'' (w'.heap.size + 1) ts.length (arrT (arrNames ts)) ∧ Rd w'' (w'.heap.size + 2) 0 (asInt fun _ => false) ∧ Below w'.heap.size w' w'') := fun w' hb => namingOf_is ts hn hts _ w' (HAv.out.later hb)
  have HB2 := Lib.hid (fun (h : b2 = true) => show bodies F ∧ snodes F ≤ 40 by
    have e := H2.out.trans h
    simp only [Bool.and_eq_true, decide_eq_true_eq] at e
    exact ⟨told_bodies F 3 (stmts_told F e.2.1), e.2.2⟩)
  have HB1 := Lib.hid (fun (h : b1 = true) => show ts.length ≤ 4 by
    have e := H1.out.trans h
    simp only [Bool.and_eq_true, decide_eq_true_eq] at e
    exact e.1)
  have C5 : Hid (b1 = true → b2 = true → ∀ (w5 w6 : World), Below w1.heap.size w1 w5 → Below w5.heap.size w5 w6 → Rd w6 (w5.heap.size + 1) ts.length (arrT (arrNames ts)) → Rd w6 (w5.heap.size + 2) 0 (asInt fun _ => false) → Calls Tryz.prog 35 #[nam (w5.heap.size + 1) (w5.heap.size + 2), .slice vo (slen F) vcap] w6 fun e w' => ∃ b : Bool, e = .returned (.bool b) ∧ (b = true ↔ (AllFit (arrNames ts) ([] ++ sall F) ∧ nestP F (fun _ => false))) ∧ Gap (w5.heap.size + 1) (w5.heap.size + 3) w6 w') := fun h1 h2 w5 w6 hb5 hb6 hT hA =>
    (bodyFits_is F w5 w6 _ (w5.heap.size + 1) ts.length (arrNames ts) [] (arrT (arrNames ts)) (fun _ => false) (HSv.out.later hb5) (Nat.le_succ _) hb6 hT (hA.more (Nat.zero_le _)) (by have := HB1.out h1; have := (HB2.out h2).2; omega) (nice_of F hS) (HB2.out h2).1 (arrT_TT _) (fun n hn => by simp at hn)).mono (by
      rintro e w' ⟨b, rfl, hb, hg, _, _⟩
      exact ⟨b, rfl, hb, hg⟩)
  have bd : Below w1.heap.size w1 w1.drew := (Below.refl _ w1).drew
  have hw1 : w1.heap.size = w.heap.size + 1 := by rw [W1.out]; simp
  have HN := Lib.hid (names_iff ts F)
  clear ha hv hts Ha Hv HAv HSv H1 H2 HA HB1 HB2
  go_enter Tryz.func10, Tryz.ntmps10
  go_wp2_with fail
  rw [← W1.out]
  clear W1
  refine wp_region_held_drew (S := Below w1.heap.size w1) (by kernel_rfl) bd (fun hHeld => ?_)
  refine wpAnyH_take (i := 0) (v := .pointer (some ⟨w.heap.size, 0, Option.none⟩)) rfl (by kernel_rfl) (by kernel_rfl) (by kernel_rfl) (fun _ _ _ h => h) (Or.inl ⟨by rfl, ?ys0⟩) hHeld ?_
  case ys0 => intro w hSw; go_simp
  simp only [Act.put, List.getElem_toArray, List.getElem_cons_succ, List.getElem_cons_zero, List.setIfInBounds_toArray, List.set_cons_zero, List.set_cons_succ]
  refine wpAnyH_take (i := 1) (v := .slice ao ts.length cap) rfl (by kernel_rfl) (by kernel_rfl) (by kernel_rfl) (fun _ _ _ h => h) (Or.inl ⟨by rfl, ?ys1⟩) hHeld ?_
  case ys1 => intro w hSw; have q := rangeAt_later R.out hSw 0 _ rfl; go_simp
  simp only [Act.put, List.getElem_toArray, List.getElem_cons_succ, List.getElem_cons_zero, List.setIfInBounds_toArray, List.set_cons_zero, List.set_cons_succ]
  refine wpAnyH_ready (rs := [2]) (by kernel_rfl) (by simp) ?_
  refine AllReadyH.cons rfl (fun K hK => ?_) AllReadyH.nil
  rw [if_pos (by rfl)]
  simp only [List.getElem_toArray, List.getElem_cons_succ, List.getElem_cons_zero]
  go_wp2_with fail
  refine (C1.out _ hHeld).mono ?_
  rintro e w5 ⟨rfl, hb5⟩
  go_wp2_with fail
  refine hK.out _ _ (hHeld.trans (hb5.mono hHeld.size)) (fun hHeld => ?_)
  cases b1 with
  | false =>
    refine wpAnyH_take (i := 3) (v := .bool false) rfl (by kernel_rfl) (by kernel_rfl) (by kernel_rfl) (fun _ _ _ h => h) (Or.inl ⟨by rfl, ?yb1f3⟩) hHeld ?_
    case yb1f3 => intro w hSw; go_simp
    simp only [Act.put, List.getElem_toArray, List.getElem_cons_succ, List.getElem_cons_zero, List.setIfInBounds_toArray, List.set_cons_zero, List.set_cons_succ]
    refine wpAnyH_take (i := 4) (v := undef) rfl (by kernel_rfl) (by kernel_rfl) (by kernel_rfl) (fun _ _ _ h => h) (Or.inr ⟨by rfl, rfl⟩) hHeld ?_
    simp only [Act.put, List.getElem_toArray, List.getElem_cons_succ, List.getElem_cons_zero, List.setIfInBounds_toArray, List.set_cons_zero, List.set_cons_succ]
    refine wpAnyH_take (i := 5) (v := undef) rfl (by kernel_rfl) (by kernel_rfl) (by kernel_rfl) (fun _ _ _ h => h) (Or.inr ⟨by rfl, rfl⟩) hHeld ?_
    simp only [Act.put, List.getElem_toArray, List.getElem_cons_succ, List.getElem_cons_zero, List.setIfInBounds_toArray, List.set_cons_zero, List.set_cons_succ]
    refine wpAnyH_take (i := 6) (v := undef) rfl (by kernel_rfl) (by kernel_rfl) (by kernel_rfl) (fun _ _ _ h => h) (Or.inr ⟨by rfl, rfl⟩) hHeld ?_
    simp only [Act.put, List.getElem_toArray, List.getElem_cons_succ, List.getElem_cons_zero, List.setIfInBounds_toArray, List.set_cons_zero, List.set_cons_succ]
    refine wpAnyH_take (i := 7) (v := .bool false) rfl (by kernel_rfl) (by kernel_rfl) (by kernel_rfl) (fun _ _ _ h => h) (Or.inl ⟨by rfl, ?yb1f7⟩) hHeld ?_
    case yb1f7 => intro w hSw; go_simp
    simp only [Act.put, List.getElem_toArray, List.getElem_cons_succ, List.getElem_cons_zero, List.setIfInBounds_toArray, List.set_cons_zero, List.set_cons_succ]
    refine wpAnyH_take (i := 8) (v := .bool false) rfl (by kernel_rfl) (by kernel_rfl) (by kernel_rfl) (fun _ _ _ h => h) (Or.inl ⟨by rfl, ?yb1f8⟩) hHeld ?_
    case yb1f8 => intro w hSw; go_simp
    simp only [Act.put, List.getElem_toArray, List.getElem_cons_succ, List.getElem_cons_zero, List.setIfInBounds_toArray, List.set_cons_zero, List.set_cons_succ]
    refine wpAnyH_take (i := 9) (v := undef) rfl (by kernel_rfl) (by kernel_rfl) (by kernel_rfl) (fun _ _ _ h => h) (Or.inr ⟨by rfl, rfl⟩) hHeld ?_
    simp only [Act.put, List.getElem_toArray, List.getElem_cons_succ, List.getElem_cons_zero, List.setIfInBounds_toArray, List.set_cons_zero, List.set_cons_succ]
    refine wpAnyH_take (i := 10) (v := undef) rfl (by kernel_rfl) (by kernel_rfl) (by kernel_rfl) (fun _ _ _ h => h) (Or.inr ⟨by rfl, rfl⟩) hHeld ?_
    simp only [Act.put, List.getElem_toArray, List.getElem_cons_succ, List.getElem_cons_zero, List.setIfInBounds_toArray, List.set_cons_zero, List.set_cons_succ]
    refine wpAnyH_take (i := 11) (v := undef) rfl (by kernel_rfl) (by kernel_rfl) (by kernel_rfl) (fun _ _ _ h => h) (Or.inr ⟨by rfl, rfl⟩) hHeld ?_
    simp only [Act.put, List.getElem_toArray, List.getElem_cons_succ, List.getElem_cons_zero, List.setIfInBounds_toArray, List.set_cons_zero, List.set_cons_succ]
    refine wpAnyH_take (i := 12) (v := undef) rfl (by kernel_rfl) (by kernel_rfl) (by kernel_rfl) (fun _ _ _ h => h) (Or.inr ⟨by rfl, rfl⟩) hHeld ?_
    simp only [Act.put, List.getElem_toArray, List.getElem_cons_succ, List.getElem_cons_zero, List.setIfInBounds_toArray, List.set_cons_zero, List.set_cons_succ]
    refine wpAnyH_take (i := 13) (v := undef) rfl (by kernel_rfl) (by kernel_rfl) (by kernel_rfl) (fun _ _ _ h => h) (Or.inr ⟨by rfl, rfl⟩) hHeld ?_
    simp only [Act.put, List.getElem_toArray, List.getElem_cons_succ, List.getElem_cons_zero, List.setIfInBounds_toArray, List.set_cons_zero, List.set_cons_succ]
    refine wpAnyH_take (i := 14) (v := .bool false) rfl (by kernel_rfl) (by kernel_rfl) (by kernel_rfl) (fun _ _ _ h => h) (Or.inl ⟨by rfl, ?yb1f14⟩) hHeld ?_
    case yb1f14 => intro w hSw; go_simp
    simp only [Act.put, List.getElem_toArray, List.getElem_cons_succ, List.getElem_cons_zero, List.setIfInBounds_toArray, List.set_cons_zero, List.set_cons_succ]
    refine wpAnyH_take (i := 15) (v := .bool false) rfl (by kernel_rfl) (by kernel_rfl) (by kernel_rfl) (fun _ _ _ h => h) (Or.inl ⟨by rfl, ?yb1f15⟩) hHeld ?_
    case yb1f15 => intro w hSw; go_simp
    simp only [Act.put, List.getElem_toArray, List.getElem_cons_succ, List.getElem_cons_zero, List.setIfInBounds_toArray, List.set_cons_zero, List.set_cons_succ]
    refine wpAnyH_take (i := 16) (v := undef) rfl (by kernel_rfl) (by kernel_rfl) (by kernel_rfl) (fun _ _ _ h => h) (Or.inr ⟨by rfl, rfl⟩) hHeld ?_
    simp only [Act.put, List.getElem_toArray, List.getElem_cons_succ, List.getElem_cons_zero, List.setIfInBounds_toArray, List.set_cons_zero, List.set_cons_succ]
    refine wpAnyH_take (i := 17) (v := undef) rfl (by kernel_rfl) (by kernel_rfl) (by kernel_rfl) (fun _ _ _ h => h) (Or.inr ⟨by rfl, rfl⟩) hHeld ?_
    simp only [Act.put, List.getElem_toArray, List.getElem_cons_succ, List.getElem_cons_zero, List.setIfInBounds_toArray, List.set_cons_zero, List.set_cons_succ]
    refine wpAnyH_take (i := 18) (v := undef) rfl (by kernel_rfl) (by kernel_rfl) (by kernel_rfl) (fun _ _ _ h => h) (Or.inr ⟨by rfl, rfl⟩) hHeld ?_
    simp only [Act.put, List.getElem_toArray, List.getElem_cons_succ, List.getElem_cons_zero, List.setIfInBounds_toArray, List.set_cons_zero, List.set_cons_succ]
    refine wpAnyH_take (i := 19) (v := undef) rfl (by kernel_rfl) (by kernel_rfl) (by kernel_rfl) (fun _ _ _ h => h) (Or.inr ⟨by rfl, rfl⟩) hHeld ?_
    simp only [Act.put, List.getElem_toArray, List.getElem_cons_succ, List.getElem_cons_zero, List.setIfInBounds_toArray, List.set_cons_zero, List.set_cons_succ]
    refine wpAnyH_take (i := 20) (v := undef) rfl (by kernel_rfl) (by kernel_rfl) (by kernel_rfl) (fun _ _ _ h => h) (Or.inr ⟨by rfl, rfl⟩) hHeld ?_
    simp only [Act.put, List.getElem_toArray, List.getElem_cons_succ, List.getElem_cons_zero, List.setIfInBounds_toArray, List.set_cons_zero, List.set_cons_succ]
    refine wpAnyH_take (i := 21) (v := undef) rfl (by kernel_rfl) (by kernel_rfl) (by kernel_rfl) (fun _ _ _ h => h) (Or.inr ⟨by rfl, rfl⟩) hHeld ?_
    simp only [Act.put, List.getElem_toArray, List.getElem_cons_succ, List.getElem_cons_zero, List.setIfInBounds_toArray, List.set_cons_zero, List.set_cons_succ]
    refine wpAnyH_take (i := 22) (v := .bool false) rfl (by kernel_rfl) (by kernel_rfl) (by kernel_rfl) (fun _ _ _ h => h) (Or.inl ⟨by rfl, ?yb1f22⟩) hHeld ?_
    case yb1f22 => intro w hSw; go_simp
    simp only [Act.put, List.getElem_toArray, List.getElem_cons_succ, List.getElem_cons_zero, List.setIfInBounds_toArray, List.set_cons_zero, List.set_cons_succ]
    refine wpAnyH_take (i := 23) (v := .bool false) rfl (by kernel_rfl) (by kernel_rfl) (by kernel_rfl) (fun _ _ _ h => h) (Or.inl ⟨by rfl, ?yb1f23⟩) hHeld ?_
    case yb1f23 => intro w hSw; go_simp
    simp only [Act.put, List.getElem_toArray, List.getElem_cons_succ, List.getElem_cons_zero, List.setIfInBounds_toArray, List.set_cons_zero, List.set_cons_succ]
    refine wpAnyH_done (by kernel_rfl) ?_ _
    have EF := Lib.hid (and_f EE.out rfl).symm
    have BB := Lib.hid (B.out.trans (hHeld.mono B.out.size))
    clear hHeld bd
    go_wp2
    go_ret
    exact ⟨ret_bool EF.out, BB.out⟩
  | true =>
    have E1 := Lib.hid (and_t EE.out rfl)
    clear EE
    refine wpAnyH_take (i := 3) (v := .bool true) rfl (by kernel_rfl) (by kernel_rfl) (by kernel_rfl) (fun _ _ _ h => h) (Or.inl ⟨by rfl, ?ys3⟩) hHeld ?_
    case ys3 => intro w hSw; go_simp
    simp only [Act.put, List.getElem_toArray, List.getElem_cons_succ, List.getElem_cons_zero, List.setIfInBounds_toArray, List.set_cons_zero, List.set_cons_succ]
    refine wpAnyH_take (i := 4) (v := .pointer (some ⟨w.heap.size, 1, Option.none⟩)) rfl (by kernel_rfl) (by kernel_rfl) (by kernel_rfl) (fun _ _ _ h => h) (Or.inl ⟨by rfl, ?ys4⟩) hHeld ?_
    case ys4 => intro w hSw; go_simp
    simp only [Act.put, List.getElem_toArray, List.getElem_cons_succ, List.getElem_cons_zero, List.setIfInBounds_toArray, List.set_cons_zero, List.set_cons_succ]
    refine wpAnyH_take (i := 5) (v := .slice vo (slen F) vcap) rfl (by kernel_rfl) (by kernel_rfl) (by kernel_rfl) (fun _ _ _ h => h) (Or.inl ⟨by rfl, ?ys5⟩) hHeld ?_
    case ys5 => intro w hSw; have q := rangeAt_later R.out hSw 1 _ rfl; go_simp
    simp only [Act.put, List.getElem_toArray, List.getElem_cons_succ, List.getElem_cons_zero, List.setIfInBounds_toArray, List.set_cons_zero, List.set_cons_succ]
    refine wpAnyH_ready (rs := [6]) (by kernel_rfl) (by simp) ?_
    refine AllReadyH.cons rfl (fun K hK => ?_) AllReadyH.nil
    rw [if_pos (by rfl)]
    simp only [List.getElem_toArray, List.getElem_cons_succ, List.getElem_cons_zero]
    go_wp2_with fail
    refine (C2.out _ hHeld).mono ?_
    rintro e w6 ⟨rfl, hb6⟩
    go_wp2_with fail
    refine hK.out _ _ (hHeld.trans (hb6.mono hHeld.size)) (fun hHeld => ?_)
    cases b2 with
    | false =>
      refine wpAnyH_take (i := 7) (v := .bool false) rfl (by kernel_rfl) (by kernel_rfl) (by kernel_rfl) (fun _ _ _ h => h) (Or.inl ⟨by rfl, ?yb2f7⟩) hHeld ?_
      case yb2f7 => intro w hSw; go_simp
      simp only [Act.put, List.getElem_toArray, List.getElem_cons_succ, List.getElem_cons_zero, List.setIfInBounds_toArray, List.set_cons_zero, List.set_cons_succ]
      refine wpAnyH_take (i := 8) (v := .bool false) rfl (by kernel_rfl) (by kernel_rfl) (by kernel_rfl) (fun _ _ _ h => h) (Or.inl ⟨by rfl, ?yb2f8⟩) hHeld ?_
      case yb2f8 => intro w hSw; go_simp
      simp only [Act.put, List.getElem_toArray, List.getElem_cons_succ, List.getElem_cons_zero, List.setIfInBounds_toArray, List.set_cons_zero, List.set_cons_succ]
      refine wpAnyH_take (i := 9) (v := undef) rfl (by kernel_rfl) (by kernel_rfl) (by kernel_rfl) (fun _ _ _ h => h) (Or.inr ⟨by rfl, rfl⟩) hHeld ?_
      simp only [Act.put, List.getElem_toArray, List.getElem_cons_succ, List.getElem_cons_zero, List.setIfInBounds_toArray, List.set_cons_zero, List.set_cons_succ]
      refine wpAnyH_take (i := 10) (v := undef) rfl (by kernel_rfl) (by kernel_rfl) (by kernel_rfl) (fun _ _ _ h => h) (Or.inr ⟨by rfl, rfl⟩) hHeld ?_
      simp only [Act.put, List.getElem_toArray, List.getElem_cons_succ, List.getElem_cons_zero, List.setIfInBounds_toArray, List.set_cons_zero, List.set_cons_succ]
      refine wpAnyH_take (i := 11) (v := undef) rfl (by kernel_rfl) (by kernel_rfl) (by kernel_rfl) (fun _ _ _ h => h) (Or.inr ⟨by rfl, rfl⟩) hHeld ?_
      simp only [Act.put, List.getElem_toArray, List.getElem_cons_succ, List.getElem_cons_zero, List.setIfInBounds_toArray, List.set_cons_zero, List.set_cons_succ]
      refine wpAnyH_take (i := 12) (v := undef) rfl (by kernel_rfl) (by kernel_rfl) (by kernel_rfl) (fun _ _ _ h => h) (Or.inr ⟨by rfl, rfl⟩) hHeld ?_
      simp only [Act.put, List.getElem_toArray, List.getElem_cons_succ, List.getElem_cons_zero, List.setIfInBounds_toArray, List.set_cons_zero, List.set_cons_succ]
      refine wpAnyH_take (i := 13) (v := undef) rfl (by kernel_rfl) (by kernel_rfl) (by kernel_rfl) (fun _ _ _ h => h) (Or.inr ⟨by rfl, rfl⟩) hHeld ?_
      simp only [Act.put, List.getElem_toArray, List.getElem_cons_succ, List.getElem_cons_zero, List.setIfInBounds_toArray, List.set_cons_zero, List.set_cons_succ]
      refine wpAnyH_take (i := 14) (v := .bool false) rfl (by kernel_rfl) (by kernel_rfl) (by kernel_rfl) (fun _ _ _ h => h) (Or.inl ⟨by rfl, ?yb2f14⟩) hHeld ?_
      case yb2f14 => intro w hSw; go_simp
      simp only [Act.put, List.getElem_toArray, List.getElem_cons_succ, List.getElem_cons_zero, List.setIfInBounds_toArray, List.set_cons_zero, List.set_cons_succ]
      refine wpAnyH_take (i := 15) (v := .bool false) rfl (by kernel_rfl) (by kernel_rfl) (by kernel_rfl) (fun _ _ _ h => h) (Or.inl ⟨by rfl, ?yb2f15⟩) hHeld ?_
      case yb2f15 => intro w hSw; go_simp
      simp only [Act.put, List.getElem_toArray, List.getElem_cons_succ, List.getElem_cons_zero, List.setIfInBounds_toArray, List.set_cons_zero, List.set_cons_succ]
      refine wpAnyH_take (i := 16) (v := undef) rfl (by kernel_rfl) (by kernel_rfl) (by kernel_rfl) (fun _ _ _ h => h) (Or.inr ⟨by rfl, rfl⟩) hHeld ?_
      simp only [Act.put, List.getElem_toArray, List.getElem_cons_succ, List.getElem_cons_zero, List.setIfInBounds_toArray, List.set_cons_zero, List.set_cons_succ]
      refine wpAnyH_take (i := 17) (v := undef) rfl (by kernel_rfl) (by kernel_rfl) (by kernel_rfl) (fun _ _ _ h => h) (Or.inr ⟨by rfl, rfl⟩) hHeld ?_
      simp only [Act.put, List.getElem_toArray, List.getElem_cons_succ, List.getElem_cons_zero, List.setIfInBounds_toArray, List.set_cons_zero, List.set_cons_succ]
      refine wpAnyH_take (i := 18) (v := undef) rfl (by kernel_rfl) (by kernel_rfl) (by kernel_rfl) (fun _ _ _ h => h) (Or.inr ⟨by rfl, rfl⟩) hHeld ?_
      simp only [Act.put, List.getElem_toArray, List.getElem_cons_succ, List.getElem_cons_zero, List.setIfInBounds_toArray, List.set_cons_zero, List.set_cons_succ]
      refine wpAnyH_take (i := 19) (v := undef) rfl (by kernel_rfl) (by kernel_rfl) (by kernel_rfl) (fun _ _ _ h => h) (Or.inr ⟨by rfl, rfl⟩) hHeld ?_
      simp only [Act.put, List.getElem_toArray, List.getElem_cons_succ, List.getElem_cons_zero, List.setIfInBounds_toArray, List.set_cons_zero, List.set_cons_succ]
      refine wpAnyH_take (i := 20) (v := undef) rfl (by kernel_rfl) (by kernel_rfl) (by kernel_rfl) (fun _ _ _ h => h) (Or.inr ⟨by rfl, rfl⟩) hHeld ?_
      simp only [Act.put, List.getElem_toArray, List.getElem_cons_succ, List.getElem_cons_zero, List.setIfInBounds_toArray, List.set_cons_zero, List.set_cons_succ]
      refine wpAnyH_take (i := 21) (v := undef) rfl (by kernel_rfl) (by kernel_rfl) (by kernel_rfl) (fun _ _ _ h => h) (Or.inr ⟨by rfl, rfl⟩) hHeld ?_
      simp only [Act.put, List.getElem_toArray, List.getElem_cons_succ, List.getElem_cons_zero, List.setIfInBounds_toArray, List.set_cons_zero, List.set_cons_succ]
      refine wpAnyH_take (i := 22) (v := .bool false) rfl (by kernel_rfl) (by kernel_rfl) (by kernel_rfl) (fun _ _ _ h => h) (Or.inl ⟨by rfl, ?yb2f22⟩) hHeld ?_
      case yb2f22 => intro w hSw; go_simp
      simp only [Act.put, List.getElem_toArray, List.getElem_cons_succ, List.getElem_cons_zero, List.setIfInBounds_toArray, List.set_cons_zero, List.set_cons_succ]
      refine wpAnyH_take (i := 23) (v := .bool false) rfl (by kernel_rfl) (by kernel_rfl) (by kernel_rfl) (fun _ _ _ h => h) (Or.inl ⟨by rfl, ?yb2f23⟩) hHeld ?_
      case yb2f23 => intro w hSw; go_simp
      simp only [Act.put, List.getElem_toArray, List.getElem_cons_succ, List.getElem_cons_zero, List.setIfInBounds_toArray, List.set_cons_zero, List.set_cons_succ]
      refine wpAnyH_done (by kernel_rfl) ?_ _
      have EF := Lib.hid (and_f E1.out rfl).symm
      have BB := Lib.hid (B.out.trans (hHeld.mono B.out.size))
      clear hHeld bd
      go_wp2
      go_ret
      exact ⟨ret_bool EF.out, BB.out⟩
    | true =>
      have E2 := Lib.hid (and_t E1.out rfl)
      clear E1
      refine wpAnyH_take (i := 7) (v := .bool true) rfl (by kernel_rfl) (by kernel_rfl) (by kernel_rfl) (fun _ _ _ h => h) (Or.inl ⟨by rfl, ?ys7⟩) hHeld ?_
      case ys7 => intro w hSw; go_simp
      simp only [Act.put, List.getElem_toArray, List.getElem_cons_succ, List.getElem_cons_zero, List.setIfInBounds_toArray, List.set_cons_zero, List.set_cons_succ]
      refine wpAnyH_take (i := 8) (v := .bool true) rfl (by kernel_rfl) (by kernel_rfl) (by kernel_rfl) (fun _ _ _ h => h) (Or.inl ⟨by rfl, ?ys8⟩) hHeld ?_
      case ys8 => intro w hSw; go_simp
      simp only [Act.put, List.getElem_toArray, List.getElem_cons_succ, List.getElem_cons_zero, List.setIfInBounds_toArray, List.set_cons_zero, List.set_cons_succ]
      refine wpAnyH_take (i := 9) (v := .pointer (some ⟨w.heap.size, 1, Option.none⟩)) rfl (by kernel_rfl) (by kernel_rfl) (by kernel_rfl) (fun _ _ _ h => h) (Or.inl ⟨by rfl, ?ys9⟩) hHeld ?_
      case ys9 => intro w hSw; go_simp
      simp only [Act.put, List.getElem_toArray, List.getElem_cons_succ, List.getElem_cons_zero, List.setIfInBounds_toArray, List.set_cons_zero, List.set_cons_succ]
      refine wpAnyH_take (i := 10) (v := .slice vo (slen F) vcap) rfl (by kernel_rfl) (by kernel_rfl) (by kernel_rfl) (fun _ _ _ h => h) (Or.inl ⟨by rfl, ?ys10⟩) hHeld ?_
      case ys10 => intro w hSw; have q := rangeAt_later R.out hSw 1 _ rfl; go_simp
      simp only [Act.put, List.getElem_toArray, List.getElem_cons_succ, List.getElem_cons_zero, List.setIfInBounds_toArray, List.set_cons_zero, List.set_cons_succ]
      refine wpAnyH_ready (rs := [11]) (by kernel_rfl) (by simp) ?_
      refine AllReadyH.cons rfl (fun K hK => ?_) AllReadyH.nil
      rw [if_pos (by rfl)]
      simp only [List.getElem_toArray, List.getElem_cons_succ, List.getElem_cons_zero]
      go_wp2_with fail
      refine (C3.out _ hHeld).mono ?_
      rintro e w7 ⟨v7, rfl, hv7, hb7⟩
      obtain ⟨ya, yc, rfl⟩ := ownShape hv7
      clear hv7
      go_wp2_with fail
      refine hK.out _ _ (hHeld.trans (hb7.mono hHeld.size)) (fun hHeld => ?_)
      refine wpAnyH_take (i := 12) (v := .int .i64 ((nmS 1 F []).length : Int)) rfl (by kernel_rfl) (by kernel_rfl) (by kernel_rfl) (fun _ _ _ h => h) (Or.inl ⟨by rfl, ?ys12⟩) hHeld ?_
      case ys12 => intro w hSw; go_simp
      simp only [Act.put, List.getElem_toArray, List.getElem_cons_succ, List.getElem_cons_zero, List.setIfInBounds_toArray, List.set_cons_zero, List.set_cons_succ]
      by_cases h6 : ((nmS 1 F []).length : Int) ≤ 6
      · have h6d : decide (((nmS 1 F []).length : Int) ≤ 6) = true := decide_eq_true h6
        refine wpAnyH_take (i := 13) (v := .bool true) rfl (by kernel_rfl) (by kernel_rfl) (by kernel_rfl) (fun _ _ _ h => h) (Or.inl ⟨by rfl, ?yy13⟩) hHeld ?_
        case yy13 => intro w hSw; go_simp
        simp only [Act.put, List.getElem_toArray, List.getElem_cons_succ, List.getElem_cons_zero, List.setIfInBounds_toArray, List.set_cons_zero, List.set_cons_succ]
        refine wpAnyH_take (i := 14) (v := .bool true) rfl (by kernel_rfl) (by kernel_rfl) (by kernel_rfl) (fun _ _ _ h => h) (Or.inl ⟨by rfl, ?yy14⟩) hHeld ?_
        case yy14 => intro w hSw; go_simp
        simp only [Act.put, List.getElem_toArray, List.getElem_cons_succ, List.getElem_cons_zero, List.setIfInBounds_toArray, List.set_cons_zero, List.set_cons_succ]
        refine wpAnyH_take (i := 15) (v := .bool true) rfl (by kernel_rfl) (by kernel_rfl) (by kernel_rfl) (fun _ _ _ h => h) (Or.inl ⟨by rfl, ?yy15⟩) hHeld ?_
        case yy15 => intro w hSw; go_simp
        simp only [Act.put, List.getElem_toArray, List.getElem_cons_succ, List.getElem_cons_zero, List.setIfInBounds_toArray, List.set_cons_zero, List.set_cons_succ]
        refine wpAnyH_take (i := 16) (v := .pointer (some ⟨w.heap.size, 0, Option.none⟩)) rfl (by kernel_rfl) (by kernel_rfl) (by kernel_rfl) (fun _ _ _ h => h) (Or.inl ⟨by rfl, ?yy16⟩) hHeld ?_
        case yy16 => intro w hSw; go_simp
        simp only [Act.put, List.getElem_toArray, List.getElem_cons_succ, List.getElem_cons_zero, List.setIfInBounds_toArray, List.set_cons_zero, List.set_cons_succ]
        refine wpAnyH_take (i := 17) (v := .slice ao ts.length cap) rfl (by kernel_rfl) (by kernel_rfl) (by kernel_rfl) (fun _ _ _ h => h) (Or.inl ⟨by rfl, ?yy17⟩) hHeld ?_
        case yy17 => intro w hSw; have q := rangeAt_later R.out hSw 0 _ rfl; go_simp
        simp only [Act.put, List.getElem_toArray, List.getElem_cons_succ, List.getElem_cons_zero, List.setIfInBounds_toArray, List.set_cons_zero, List.set_cons_succ]
        refine wpAnyH_take (i := 19) (v := .pointer (some ⟨w.heap.size, 1, Option.none⟩)) rfl (by kernel_rfl) (by kernel_rfl) (by kernel_rfl) (fun _ _ _ h => h) (Or.inl ⟨by rfl, ?yy19⟩) hHeld ?_
        case yy19 => intro w hSw; go_simp
        simp only [Act.put, List.getElem_toArray, List.getElem_cons_succ, List.getElem_cons_zero, List.setIfInBounds_toArray, List.set_cons_zero, List.set_cons_succ]
        refine wpAnyH_take (i := 20) (v := .slice vo (slen F) vcap) rfl (by kernel_rfl) (by kernel_rfl) (by kernel_rfl) (fun _ _ _ h => h) (Or.inl ⟨by rfl, ?yy20⟩) hHeld ?_
        case yy20 => intro w hSw; have q := rangeAt_later R.out hSw 1 _ rfl; go_simp
        simp only [Act.put, List.getElem_toArray, List.getElem_cons_succ, List.getElem_cons_zero, List.setIfInBounds_toArray, List.set_cons_zero, List.set_cons_succ]
        refine wpAnyH_ready (rs := [18]) (by kernel_rfl) (by simp) ?_
        refine AllReadyH.cons rfl (fun K hK => ?_) AllReadyH.nil
        rw [if_pos (by rfl)]
        simp only [List.getElem_toArray, List.getElem_cons_succ, List.getElem_cons_zero]
        go_wp2_with fail
        refine (C4.out _ hHeld).mono ?_
        rintro e w8 ⟨rfl, hT8, hA8, hb8⟩
        have H78 := Lib.hid hHeld
        go_wp2_with fail
        refine hK.out _ _ (hHeld.trans (hb8.mono hHeld.size)) (fun hHeld => ?_)
        refine wpAnyH_ready (rs := [21]) (by kernel_rfl) (by simp) ?_
        refine AllReadyH.cons rfl (fun K hK => ?_) AllReadyH.nil
        rw [if_pos (by rfl)]
        simp only [List.getElem_toArray, List.getElem_cons_succ, List.getElem_cons_zero]
        go_wp2_with fail
        refine (C5.out (by first | exact rfl | trivial) (by first | exact rfl | trivial) w7 w8 H78.out hb8 hT8 hA8).mono ?_
        rintro e w9 ⟨b9, rfl, h9, hg9⟩
        go_wp2_with fail
        refine hK.out _ _ (hHeld.trans (hg9.below (by have := H78.out.size; omega) (by have := hHeld.size; omega))) (fun hHeld => ?_)
        have EQ := Lib.hid (show A = b9 by rw [← E2.out, Bool.eq_iff_iff, HN.out, h9]; exact ⟨fun c => c.1, fun c => ⟨c, by omega⟩⟩)
        clear h9 hg9 hT8 hA8 hb8
        refine wpAnyH_take (i := 22) (v := .bool b9) rfl (by kernel_rfl) (by kernel_rfl) (by kernel_rfl) (fun _ _ _ h => h) (Or.inl ⟨by rfl, ?yy22⟩) hHeld ?_
        case yy22 => intro w hSw; go_simp
        simp only [Act.put, List.getElem_toArray, List.getElem_cons_succ, List.getElem_cons_zero, List.setIfInBounds_toArray, List.set_cons_zero, List.set_cons_succ]
        refine wpAnyH_take (i := 23) (v := .bool b9) rfl (by kernel_rfl) (by kernel_rfl) (by kernel_rfl) (fun _ _ _ h => h) (Or.inl ⟨by rfl, ?yy23⟩) hHeld ?_
        case yy23 => intro w hSw; go_simp
        simp only [Act.put, List.getElem_toArray, List.getElem_cons_succ, List.getElem_cons_zero, List.setIfInBounds_toArray, List.set_cons_zero, List.set_cons_succ]
        refine wpAnyH_done (by kernel_rfl) ?_ _
        have BB := Lib.hid (B.out.trans (hHeld.mono B.out.size))
        clear hHeld bd
        go_wp2
        go_ret
        exact ⟨ret_bool EQ.out.symm, BB.out⟩
      · have h6d : decide (((nmS 1 F []).length : Int) ≤ 6) = false := decide_eq_false h6
        refine wpAnyH_take (i := 13) (v := .bool false) rfl (by kernel_rfl) (by kernel_rfl) (by kernel_rfl) (fun _ _ _ h => h) (Or.inl ⟨by rfl, ?yh13⟩) hHeld ?_
        case yh13 => intro w hSw; go_simp
        simp only [Act.put, List.getElem_toArray, List.getElem_cons_succ, List.getElem_cons_zero, List.setIfInBounds_toArray, List.set_cons_zero, List.set_cons_succ]
        refine wpAnyH_take (i := 14) (v := .bool false) rfl (by kernel_rfl) (by kernel_rfl) (by kernel_rfl) (fun _ _ _ h => h) (Or.inl ⟨by rfl, ?yhf14⟩) hHeld ?_
        case yhf14 => intro w hSw; go_simp
        simp only [Act.put, List.getElem_toArray, List.getElem_cons_succ, List.getElem_cons_zero, List.setIfInBounds_toArray, List.set_cons_zero, List.set_cons_succ]
        refine wpAnyH_take (i := 15) (v := .bool false) rfl (by kernel_rfl) (by kernel_rfl) (by kernel_rfl) (fun _ _ _ h => h) (Or.inl ⟨by rfl, ?yhf15⟩) hHeld ?_
        case yhf15 => intro w hSw; go_simp
        simp only [Act.put, List.getElem_toArray, List.getElem_cons_succ, List.getElem_cons_zero, List.setIfInBounds_toArray, List.set_cons_zero, List.set_cons_succ]
        refine wpAnyH_take (i := 16) (v := undef) rfl (by kernel_rfl) (by kernel_rfl) (by kernel_rfl) (fun _ _ _ h => h) (Or.inr ⟨by rfl, rfl⟩) hHeld ?_
        simp only [Act.put, List.getElem_toArray, List.getElem_cons_succ, List.getElem_cons_zero, List.setIfInBounds_toArray, List.set_cons_zero, List.set_cons_succ]
        refine wpAnyH_take (i := 17) (v := undef) rfl (by kernel_rfl) (by kernel_rfl) (by kernel_rfl) (fun _ _ _ h => h) (Or.inr ⟨by rfl, rfl⟩) hHeld ?_
        simp only [Act.put, List.getElem_toArray, List.getElem_cons_succ, List.getElem_cons_zero, List.setIfInBounds_toArray, List.set_cons_zero, List.set_cons_succ]
        refine wpAnyH_take (i := 18) (v := undef) rfl (by kernel_rfl) (by kernel_rfl) (by kernel_rfl) (fun _ _ _ h => h) (Or.inr ⟨by rfl, rfl⟩) hHeld ?_
        simp only [Act.put, List.getElem_toArray, List.getElem_cons_succ, List.getElem_cons_zero, List.setIfInBounds_toArray, List.set_cons_zero, List.set_cons_succ]
        refine wpAnyH_take (i := 19) (v := undef) rfl (by kernel_rfl) (by kernel_rfl) (by kernel_rfl) (fun _ _ _ h => h) (Or.inr ⟨by rfl, rfl⟩) hHeld ?_
        simp only [Act.put, List.getElem_toArray, List.getElem_cons_succ, List.getElem_cons_zero, List.setIfInBounds_toArray, List.set_cons_zero, List.set_cons_succ]
        refine wpAnyH_take (i := 20) (v := undef) rfl (by kernel_rfl) (by kernel_rfl) (by kernel_rfl) (fun _ _ _ h => h) (Or.inr ⟨by rfl, rfl⟩) hHeld ?_
        simp only [Act.put, List.getElem_toArray, List.getElem_cons_succ, List.getElem_cons_zero, List.setIfInBounds_toArray, List.set_cons_zero, List.set_cons_succ]
        refine wpAnyH_take (i := 21) (v := undef) rfl (by kernel_rfl) (by kernel_rfl) (by kernel_rfl) (fun _ _ _ h => h) (Or.inr ⟨by rfl, rfl⟩) hHeld ?_
        simp only [Act.put, List.getElem_toArray, List.getElem_cons_succ, List.getElem_cons_zero, List.setIfInBounds_toArray, List.set_cons_zero, List.set_cons_succ]
        refine wpAnyH_take (i := 22) (v := .bool false) rfl (by kernel_rfl) (by kernel_rfl) (by kernel_rfl) (fun _ _ _ h => h) (Or.inl ⟨by rfl, ?yhf22⟩) hHeld ?_
        case yhf22 => intro w hSw; go_simp
        simp only [Act.put, List.getElem_toArray, List.getElem_cons_succ, List.getElem_cons_zero, List.setIfInBounds_toArray, List.set_cons_zero, List.set_cons_succ]
        refine wpAnyH_take (i := 23) (v := .bool false) rfl (by kernel_rfl) (by kernel_rfl) (by kernel_rfl) (fun _ _ _ h => h) (Or.inl ⟨by rfl, ?yhf23⟩) hHeld ?_
        case yhf23 => intro w hSw; go_simp
        simp only [Act.put, List.getElem_toArray, List.getElem_cons_succ, List.getElem_cons_zero, List.setIfInBounds_toArray, List.set_cons_zero, List.set_cons_succ]
        refine wpAnyH_done (by kernel_rfl) ?_ _
        have EF := Lib.hid (show false = A by rw [← E2.out]; symm; rw [← Bool.not_eq_true, HN.out]; intro c; exact h6 (by omega))
        have BB := Lib.hid (B.out.trans (hHeld.mono B.out.size))
        clear hHeld bd
        go_wp2
        go_ret
        exact ⟨ret_bool EF.out, BB.out⟩
end Go.Proofs.YtkhccpjkajhnpaaGreat
/-
  The contract of the landed code's LoopVars.
-/
namespace Go.Proofs.YtkhccpjkajhnpaaGreat
open Go.RowKit Go.Lib
set_option linter.unusedSimpArgs false
set_option linter.unusedVariables false

set_option maxRecDepth 100000 in
theorem impl_LoopVars (F : SF) (hF : snodes F ≤ 10000000) (hs : ∀ n ∈ sall F, n.1.s.size ≤ 10000000) (w : World) (v : Value) (hv : SV w 0 F v) : Calls Tryz.prog 8 #[v] w (GoodNames w (nmS 3 F [])) := by
  have C := Lib.hid (namesOfKind_is F hF hs 3 w v hv)
  go_enter Tryz.func8, Tryz.ntmps8
  go_wp2_with fail
  refine C.out.mono ?_
  rintro e w1 ⟨v1, ns, rfl, h1, h2, h3, h4, h5⟩
  have B := Lib.hid (And.intro (names_same 3 F ns h1 h2) (And.intro h4 h5))
  clear h1 h2 h3 h4 h5
  go_wp2
  go_ret
  exact ⟨_, rfl, by rw [← B.out.1]; exact B.out.2.1, B.out.2.2⟩
end Go.Proofs.YtkhccpjkajhnpaaGreat
/-
  The contract of the landed code's Asked.
-/
namespace Go.Proofs.YtkhccpjkajhnpaaGreat
open Go.RowKit Go.Lib Go.Maps Go.Sort Go.WideMaps
set_option linter.unusedSimpArgs false
set_option linter.unusedVariables false

set_option maxHeartbeats 2000000 in
set_option maxRecDepth 100000 in
theorem askHit (x : X) (v : Value) (w : World) (nb mb n : Nat) (D : DataW Unit) (hk : x.h.k = 2) (hn : MapAt w nb mb) (hown : OwnM w mb n D) (hnn : n < 9000000000000000000) (hs : x.h.s.size ≤ 10000000) :
    Calls Tryz.prog 30 #[xagg x v, .pointer (some ⟨nb, 0, Option.none⟩)] w fun e w' => e = .returned (.tuple #[]) ∧ (∃ d, OwnM w' mb (n + 1) (D.put (.string x.h.s.data.toList) d)) ∧ Gap mb (mb + 1) w w' := by
  have c2 : ∀ o, (w.alloc o).cell? ⟨nb, 0, Option.none⟩ = some (.map (some mb)) := fun o => cell_of_one ((Below.heap_alloc _ _ nb (lt_of_block hn)).trans hn)
  have hlt := hown.lt
  have hkey : keyOf Tryz.prog 9 (.string x.h.s) = some (.string x.h.s.data.toList) := keyOf_string_mk Tryz.underlying9 (by unfold maxLen; omega)
  have hown1 := hown.alloc (.cells #[.int .i64 x.h.k, .int .i64 x.h.n, .string x.h.s, v] 47)
  rw [hk] at hown1
  obtain ⟨c, hrun, hat, _⟩ := hown1.lookup_int keyLaw Tryz.underlying43 Tryz.underlying3 (zeroInt _) hkey
  have HO := Lib.hid hown1
  have Hlt := Lib.hid hlt
  clear hn hown hat hown1 hlt
  show Calls Tryz.prog 30 #[.agg #[.int .i64 x.h.k, .int .i64 x.h.n, .string x.h.s, v], .pointer (some ⟨nb, 0, Option.none⟩)] w _
  rw [hk]
  go_enter Tryz.func30, Tryz.ntmps30
  go_wp2_with (first
    | (at_mapUpdate; refine wpList_mapUpdate_own _ rfl _ _ _ 43 rfl 9 3 keyLaw Tryz.underlying43 _ mb n _ rfl HO.out (by unfold maxLen; omega) _ _ _ rfl rfl hkey _ [] (plainElem_int Tryz.underlying3 (wrap64_wf _)) ?_)
    | go_in)
  intro w1 ho1 hg1
  have G := Lib.hid (And.intro (Exists.intro (p := fun d => OwnM w1 mb (n + 1) (D.put (.string x.h.s.data.toList) d)) _ ho1) (gap_map Hlt.out hg1))
  clear ho1 hg1 hrun c2
  go_wp2
  go_end0
  exact ⟨rfl, G.out.1, G.out.2⟩
set_option maxRecDepth 100000 in
theorem askMiss (x : X) (v : Value) (w : World) (nb : Nat) (hne : ¬ x.h.k = 2) :
    Calls Tryz.prog 30 #[xagg x v, .pointer (some ⟨nb, 0, Option.none⟩)] w fun e w' => e = .returned (.tuple #[]) ∧ Below w.heap.size w w' := by
  have h1 := int_ne hne
  have B := Lib.hid (fun o => alloc_below w o)
  go_enter Tryz.func30, Tryz.ntmps30
  go_wp2
  go_end0
  exact ⟨rfl, B.out _⟩
/-- What the map holds when so many expressions have been gone to, behind those of earlier statements. -/
def AJ (nb mb n0 : Nat) (pre : List EN) (vs : List EN) (w' : World) : Prop := ∃ D, OwnM w' mb (n0 + vs.length) D ∧ KM (ofKindE 2) (pre ++ vs) D ∧ MapAt w' nb mb
theorem AJ.quiet (lo hi nb mb n0 : Nat) (pre : List EN) (h1 : lo ≤ nb ∧ nb < hi) (h2 : lo ≤ mb ∧ mb < hi) : Quiet lo hi (AJ nb mb n0 pre) := fun vs w1 w2 ⟨D, k1, k2, k3⟩ _ hk => ⟨D, k1.block (hk _ h2.1 h2.2), k2, (hk _ h1.1 h1.2).trans k3⟩
theorem AJ.step (lo hi nb mb n0 : Nat) (pre vs : List EN) (h : EH) (l : EF) (u : Value) (w : World) (hb1 : lo ≤ nb ∧ nb < hi) (hb2 : lo ≤ mb ∧ mb < hi) (hne : nb ≠ mb) (hj : AJ nb mb n0 pre vs w) (hl : n0 + vs.length < 9000000000000000000) (hs : h.s.size ≤ 10000000) :
    Calls Tryz.prog 30 (#[.agg (xcells ⟨h, l⟩ u).toArray] ++ #[.pointer (some ⟨nb, 0, Option.none⟩)]) w fun e w' => e = .returned (.tuple #[]) ∧ AJ nb mb n0 pre (vs ++ [(h, l)]) w' ∧ Gap lo hi w w' := by
  obtain ⟨D, h1, h2, h3⟩ := hj
  by_cases hk : h.k = 2
  · refine (askHit ⟨h, l⟩ u w nb mb (n0 + vs.length) D hk h3 h1 hl hs).mono ?_
    rintro e w' ⟨rfl, ⟨d, ho⟩, hg⟩
    refine ⟨rfl, ⟨D.put (.string h.s.data.toList) d, ?_, ?_, ?_⟩, hg.wider hb2.1 hb2.2⟩
    · rw [List.length_append]; exact ho
    · rw [← List.append_assoc]; exact h2.hit (d := d) (s := h.s) (h1.tidy keyLaw).isMap (by simp [ofKindE, hk])
    · exact (hg.block _ (lt_of_block h3) (by omega)).trans h3
  · refine (askMiss ⟨h, l⟩ u w nb hk).mono ?_
    rintro e w' ⟨rfl, hb⟩
    refine ⟨rfl, ⟨D, ?_, ?_, ?_⟩, Gap.of _ _ hb⟩
    · rw [List.length_append]; exact OwnM.block (World.ownsMap.mono h1 (Nat.le_succ _)) (hb.block _ h1.lt)
    · rw [← List.append_assoc]; exact h2.miss (by simp [ofKindE, hk])
    · exact (hb.block _ (lt_of_block h3)).trans h3
/-- What it holds when so many statements have been gone to. -/
def AS (N : Nat) (vs : List SN) (w' : World) : Prop := ∃ D n, n ≤ vs.length * 10000000 ∧ OwnM w' N n D ∧ KM (ofKindE 2) (vs.flatMap fun a => hall a.1) D ∧ MapAt w' (N + 1) N
theorem AS.quiet (N : Nat) : Quiet N (N + 2) (AS N) := fun vs w1 w2 ⟨D, n, h0, h1, h2, h3⟩ _ hk => ⟨D, n, h0, h1.block (hk _ (by omega) (by omega)), h2, (hk _ (by omega) (by omega)).trans h3⟩
theorem KM.mem {α : Type} {P : α → Option ByteArray} {vs ws : List α} {D : DataW Unit} (h : KM P vs D) (e : ∀ a, a ∈ vs ↔ a ∈ ws) : KM P ws D := fun x => (h x).trans ⟨fun ⟨n, h1, h2⟩ => ⟨n, (e n).1 h1, h2⟩, fun ⟨n, h1, h2⟩ => ⟨n, (e n).2 h1, h2⟩⟩
set_option maxHeartbeats 2000000 in
set_option maxRecDepth 100000 in
theorem AS.step (N : Nat) (vs : List SN) (h : SH) (l : SF) (v1 v2 v3 v4 u : Value) (w : World) (hN : N + 2 ≤ w.heap.size) (hj : AS N vs w) (hl : vs.length < 10000000) (hh : (hall h).length ≤ 10000000) (hs : ∀ a ∈ hall h, a.1.s.size ≤ 10000000)
    (w0 : World) (hw0 : w0.heap.size = N) (hb0 : Below w0.heap.size w0 w) (hv0 : HV w0 0 h v1 v2 v3 v4) :
    Calls Tryz.prog 26 #[sagg h v1 v2 v3 v4 u, .pointer (some ⟨N + 1, 0, Option.none⟩)] w fun e w' => e = .returned (.tuple #[]) ∧ AS N (vs ++ [(h, l)]) w' ∧ Gap N (N + 2) w w' := by
  have hmf : ∀ (fn : Fn) (first cap : Array Value) (w : World), (Instr.makeFunc fn first cap).run Tryz.prog w = .ok (.func fn first cap) w := fun _ _ _ _ => rfl
  obtain ⟨D, n, d0, d1, d2, d3⟩ := hj
  have hB := alloc_below w (.cells (sarr h v1 v2 v3 v4 u) 49)
  have RG : Hid ((w.alloc (.cells (sarr h v1 v2 v3 v4 u) 49)).rangeAt w.heap.size 0 (scells h v1 v2 v3 v4 u)) := blk_range (arr := sarr h v1 v2 v3 v4 u) (t := 49) (fr := (0, 0)) (by show (w.heap.push _)[w.heap.size]? = _; simp)
  have s1 := hv0.e1.shape; have s2 := hv0.e2.shape; have s3 := hv0.e3.shape; have s4 := hv0.e4.shape
  have EX := Lib.hid (expsOf_is h v1 v2 v3 v4 u (w.alloc (.cells (sarr h v1 v2 v3 v4 u) 49)) (by obtain ⟨a, c, e⟩ := s1; exact ⟨a, _, c, e⟩) (by obtain ⟨a, c, e⟩ := s2; exact ⟨a, _, c, e⟩) (by obtain ⟨a, c, e⟩ := s3; exact ⟨a, _, c, e⟩) (by obtain ⟨a, c, e⟩ := s4; exact ⟨a, _, c, e⟩))
  -- what the inner visit does, from whatever world expsOf leaves
  have VI : Hid (∀ (w2 : World) (g : Nat), Below w.heap.size w w2 → w.heap.size ≤ g → w2.rangeAt g 0 (fcells h v1 v2 v3 v4) →
      Calls Tryz.prog 27 #[.slice (some ⟨g, 0, Option.none⟩) 4 4, .func (.func 29) #[] #[], .func (.func 30) #[] #[.pointer (some ⟨N + 1, 0, Option.none⟩)]] w2 fun e w' => e = .returned (.tuple #[]) ∧ AS N (vs ++ [(h, l)]) w' ∧ Gap N (N + 2) w w') := by
    intro w2 g hb2 hg hr
    have hs2 := hb2.size
    have hlow : ∀ (a : Addr) v, w0.cell? a = some v → (cleared w2 N).cell? a = some v := fun a v hc => by
      have hlt := lt_of_cellA hc
      exact cleared_in (by omega) (by omega) (keeps (hb0.trans (hb2.mono hb0.size)) hc)
    have hrc : (cleared w2 N).rangeAt g 0 (fcells h v1 v2 v3 v4) := fun j v hv => cleared_in (by show g ≠ N; omega) (by show g ≠ N + 1; omega) (hr j v hv)
    have hv2 : HV (cleared w2 N) 0 h v1 v2 v3 v4 := ⟨hv0.e1.same (Nat.le_refl _) (fun a v _ hc => hlow a v hc), hv0.e2.same (Nat.le_refl _) (fun a v _ hc => hlow a v hc), hv0.e3.same (Nat.le_refl _) (fun a v _ hc => hlow a v hc), hv0.e4.same (Nat.le_refl _) (fun a v _ hc => hlow a v hc)⟩
    refine (visitAllEK_is (four h) (by rw [four_nodes]; exact hh) (cleared w2 N) w2 N (N + 2) (fun w' hgap a v hc => ?_) (by omega) _ (laid_four hv2 hrc) 30 (fun _ _ => rfl) #[.pointer (some ⟨N + 1, 0, Option.none⟩)] (AJ (N + 1) N n (vs.flatMap fun a => hall a.1)) (AJ.quiet _ _ _ _ _ _ (by omega) (by omega)) ?_ ?_).mono ?_
    · obtain ⟨n0, n1, hc2⟩ := cleared_out (by omega) hc
      have := hgap.block a.block (lt_of_cellA hc2) (by omega)
      unfold World.cell? at hc2 ⊢; rw [this]; exact hc2
    · exact ⟨D, d1.block (hb2.block _ d1.lt), by simpa using d2, (hb2.block _ (lt_of_block d3)).trans d3⟩
    · intro ws eh el eu w1 hj1 _ _ _ _ hm hln
      rw [four_all] at hm
      rw [four_nodes] at hln
      refine AJ.step N (N + 2) (N + 1) N n _ ws eh el eu w1 (by omega) (by omega) (by omega) hj1 (by omega) (hs _ hm)
    · rintro e w3 ⟨rfl, ⟨ws, ⟨D', k1, k2, k3⟩, hp⟩, hgap⟩
      refine ⟨rfl, ⟨D', n + ws.length, ?_, k1, ?_, k3⟩, (Gap.of _ _ hb2).trans hgap⟩
      · have : ws.length ≤ 10000000 := by rw [hp.length_eq, four_all]; exact hh
        rw [List.length_append, List.length_singleton]; omega
      · rw [List.flatMap_append]
        refine k2.mem (fun a => ?_)
        simp only [List.mem_append, List.flatMap_cons, List.flatMap_nil, List.append_nil]
        rw [hp.mem_iff, four_all]
  have HB := Lib.hid hB
  clear d0 d1 d2 d3 s1 s2 s3 s4 hB hb0 hv0 hs hh
  go_enter Tryz.func26, Tryz.ntmps26
  go_wp2_with (refine wpList_load_mid rfl 49 _ rfl w.heap.size 0 rfl _ _ RG.out Tryz.underlying49 rfl sizeIS ?_)
  refine EX.out.mono ?_
  rintro e w2 ⟨g, rfl, hr, hg, hb2⟩
  have B2 := Lib.hid (And.intro (below_alloc hb2) (And.intro (show w.heap.size ≤ g by simp at hg; omega) hr))
  clear hr hg hb2
  go_wp2_with fail
  refine (VI.out w2 g B2.out.1 B2.out.2.1 B2.out.2.2).mono ?_
  rintro e w3 ⟨rfl, ha, hgp⟩
  have R := Lib.hid (And.intro ha hgp)
  clear ha hgp
  go_wp2
  go_end0
  exact ⟨rfl, R.out.1, R.out.2⟩
theorem nodup_len {α : Type} [DecidableEq α] : ∀ (l m : List α), l.Nodup → (∀ x ∈ l, x ∈ m) → l.length ≤ m.length
  | [], _, _, _ => Nat.zero_le _
  | x :: l, m, h, hs => by
    obtain ⟨h1, h2⟩ := List.nodup_cons.1 h
    have hx := hs x (by simp)
    have := nodup_len l (m.erase x) h2 (fun y hy => (List.mem_erase_of_ne (fun e => h1 (by rw [← e]; exact hy))).2 (hs y (by simp [hy])))
    rw [List.length_erase_of_mem hx] at this
    have := List.length_pos_of_mem hx
    simp only [List.length_cons]; omega
theorem own_nodup {D : DataW Unit} {w : World} {b n : Nat} (ho : OwnM w b n D) : (strKeys D).Nodup ∧ (strKeys D).length = Maps.size D := by
  obtain ⟨es, rfl, hpw⟩ := ho.tidy keyLaw
  obtain ⟨es', e, hko⟩ := ho.keysOf
  injection e with e
  subst e
  refine ⟨?_, by simp [strKeys, Maps.size]⟩
  show (es.map fun p => strOf p.1).Nodup
  refine List.pairwise_map.2 (hpw.imp_of_mem fun {p q} hp' hq' hne e => hne ?_)
  obtain ⟨key, hk⟩ := hko p hp'
  obtain ⟨x, _, hx, _⟩ := Maps.keyOf_str Tryz.underlying9 hk
  obtain ⟨key', hk'⟩ := hko q hq'
  obtain ⟨y, _, hy, _⟩ := Maps.keyOf_str Tryz.underlying9 hk'
  rw [hx, hy] at e ⊢
  exact congrArg _ e
theorem asked_start (w : World) : AS w.heap.size [] ((w.alloc (.map #[] 0)).alloc (.cells #[.map (some w.heap.size)] 43)) ∧ Below w.heap.size w ((w.alloc (.map #[] 0)).alloc (.cells #[.map (some w.heap.size)] 43)) := by
  have hb := (alloc_below w (.map #[] 0)).alloc (by simp) (.cells #[.map (some w.heap.size)] 43)
  refine ⟨⟨.map [], 0, Nat.zero_le _, ?_, fun x => by simp [has], ?_⟩, hb⟩
  · have h := World.ownsMap_made (H := Unit) w Tryz.prog 9 (plainElem Tryz.prog 3)
    exact h.alloc _
  · exact (congrArg (fun n => ((w.alloc (.map #[] 0)).alloc (.cells #[.map (some w.heap.size)] 43)).heap[n]?) (show w.heap.size + 1 = (w.alloc (.map #[] 0)).heap.size by simp)).trans (by show ((w.alloc _).heap.push _)[(w.alloc _).heap.size]? = _; rw [Array.getElem?_push_size])
set_option maxHeartbeats 2000000 in
set_option maxRecDepth 100000 in
theorem impl_AskedE (F : SF) (hF : snodes F ≤ 10000000) (hE : (sallE F).length ≤ 10000000) (hs : ∀ n ∈ sallE F, n.1.s.size ≤ 10000000) (w : World) (v : Value) (hv : SV w 0 F v) : Calls Tryz.prog 9 #[v] w (GoodNames w (nmA 2 F [])) := by
  have hmf : ∀ (fn : Fn) (first cap : Array Value) (w : World), (Instr.makeFunc fn first cap).run Tryz.prog w = .ok (.func fn first cap) w := fun _ _ _ _ => rfl
  have hmm := @run_makeMap Tryz.prog
  obtain ⟨j0, b0⟩ := asked_start w
  have N0 := Lib.hid (And.intro j0 b0)
  have hlenh : ∀ (h : SH) (l : SF), (h, l) ∈ sall F → (hall h).length ≤ 10000000 := fun h l hm => by
    have key : ∀ (G : SF), (h, l) ∈ sall G → (hall h).length ≤ (sallE G).length := fun G => by
      induction G with
      | nil => intro hx; simp [sall] at hx
      | node _ _ h' l' r' ih1 ih2 =>
        intro hx
        simp only [sall, List.mem_cons, List.mem_append] at hx
        simp only [sallE, List.length_append]
        rcases hx with e | hx | hx
        · injection e with e1 e2; subst e1; omega
        · have := ih1 hx; omega
        · have := ih2 hx; omega
    exact Nat.le_trans (key F hm) hE
  have Hs := Lib.hid hs
  have Hv := Lib.hid (fun (W : World) (hJ : AS w.heap.size [] W) (hb : Below w.heap.size w W) (hW : w.heap.size + 2 ≤ W.heap.size) =>
    visitAllS_is F hF w W hb w.heap.size (w.heap.size + 2) (Nat.le_refl _) hW v hv 26 (fun _ _ => rfl) #[.pointer (some ⟨w.heap.size + 1, 0, Option.none⟩)] (AS w.heap.size)
      (AS.quiet _) hJ (fun vs h l v1 v2 v3 v4 u w1 hj hbb hsz hvv _ hm hl => AS.step w.heap.size vs h l v1 v2 v3 v4 u w1 (by omega) hj (by omega) (hlenh h l hm) (fun a ha => Hs.out a ((sallE_mem F a).2 ⟨_, hm, ha⟩)) w rfl hbb hvv))
  clear hs j0 b0
  go_enter Tryz.func9, Tryz.ntmps9
  go_wp2_with fail
  refine (Hv.out _ N0.out.1 N0.out.2 (by simp)).mono ?_
  rintro e w1 ⟨rfl, ⟨vs, ⟨D, n, _, ho, hk0, hm⟩, hp⟩, hg⟩
  have hk : KM (ofKindE 2) (sallE F) D := hk0.mem (fun a => by
    rw [sallE_mem, List.mem_flatMap]
    exact ⟨fun ⟨x, h1, h2⟩ => ⟨x, hp.subset h1, h2⟩, fun ⟨x, h1, h2⟩ => ⟨x, hp.symm.subset h1, h2⟩⟩)
  have hB1 := Lib.hid (N0.out.2.trans (hg.below (Nat.le_refl _) N0.out.2.size))
  have hcell := cell_of_one hm
  have hfrom : ∀ x ∈ strKeys D, ∃ a ∈ sallE F, a.1.s.data.toList = x := fun x hx => by
    obtain ⟨a, ha, s, h1, h2⟩ := (hk x).1 ((own_keys ho x).1 hx)
    unfold ofKindE at h1
    split at h1
    · injection h1 with h1; subst h1; exact ⟨a, ha, h2⟩
    · cases h1
  have hsz : Maps.size D ≤ 10000000 := by
    obtain ⟨q1, q2⟩ := own_nodup ho
    rw [← q2]
    refine Nat.le_trans (nodup_len _ ((sallE F).map fun a => a.1.s.data.toList) q1 (fun x hx => ?_)) (by rw [List.length_map]; exact hE)
    obtain ⟨a, ha, e⟩ := hfrom x hx
    exact List.mem_map.2 ⟨a, ha, e⟩
  have hsm : ∀ x ∈ strKeys D, x.length ≤ 10000000 := fun x hx => by
    obtain ⟨a, ha, e⟩ := hfrom x hx
    subst e
    exact Hs.out a ha
  have HD := Lib.hid (And.intro ho hk)
  have HS := Lib.hid (And.intro hsz hsm)
  clear ho hk hk0 hm hp hg N0 Hv Hs hsz hsm hfrom hlenh
  go_wp2_with fail
  refine (ascending_is _ _ D w1 HD.out.1 HS.out.1 HS.out.2).mono ?_
  rintro e w2 ⟨v', ss, rfl, hperm, hrow, hb2⟩
  have hB2 := hB1.out.trans (hb2.mono hB1.out.size)
  obtain ⟨a1, a2⟩ := HD.out.2.names HD.out.1 hperm
  obtain ⟨n1, n2⟩ := nmA_names 2 F [] List.Pairwise.nil
  have hns : mapNames ss = nmA 2 F [] := asc_ext a1 n1 (fun s => by rw [a2 s, n2 s]; simp)
  have R := Lib.hid (And.intro hns (And.intro (ownsRow_base_a hrow hB1.out.size) hB2))
  clear a1 a2 n1 n2 hrow hb2 hB2 hperm hcell hns
  go_wp2
  go_ret
  exact ⟨_, rfl, by rw [← R.out.1]; exact R.out.2.1, R.out.2.2⟩
end Go.Proofs.YtkhccpjkajhnpaaGreat
/-
  The contract of the landed code's ArrAt.
-/
namespace Go.Proofs.YtkhccpjkajhnpaaGreat
open Go.RowKit Go.Lib
set_option linter.unusedSimpArgs false
set_option linter.unusedVariables false

set_option maxHeartbeats 1000000 in
theorem impl_ArrAt (ts : List AR) (hn : ts.length ≤ 1048576) (s : ByteArray) (va vb : Value) (hvb : vb.oneCell' = true) (w : World) (ha : AV w 0 va ts) :
    Calls Tryz.prog 12 #[.agg #[va, vb], .string s] w fun e w' => e = .returned (.int .i64 (arrGo ts 0 s)) ∧ Below w.heap.size w w' := by
  obtain ⟨ao, cap, rfl, hr⟩ := ha
  have Hr := Lib.hid hr
  clear hr
  have hc0 : (w.alloc (.cells #[.slice ao ts.length cap, vb] 27)).cell? ⟨w.heap.size, 0, Option.none⟩ = some (.slice ao ts.length cap) := box_cell (Below.refl _ _) rfl
  have B := Lib.hid (alloc_below w (.cells #[.slice ao ts.length cap, vb] 27))
  go_enter Tryz.func12, Tryz.ntmps12
  go_wp2
  go_loopw [10] (fun i wr => ∃ k : Nat, k ≤ ts.length ∧ i = .int .i64 k ∧ Hid (arrGo ts 0 s = arrGo (ts.drop k) k s) ∧ Below w.heap.size w wr) (fun i _ => ts.length - (RowKit.intOf i).toNat)
  case atStart => exact ⟨0, by omega, rfl, (by show arrGo ts 0 s = arrGo (ts.drop 0) 0 s; rw [List.drop_zero]), B.out⟩
  case round =>
    obtain ⟨k, hk, rfl, hg, hbr⟩ := hrel
    by_cases hlt : k < ts.length
    · have hltI : (k : Int) < (ts.length : Int) := by omega
      obtain ⟨t, ht⟩ : ∃ t, ts[k]? = some t := ⟨ts[k], List.getElem?_eq_getElem hlt⟩
      rcases Hr.out with hr | ⟨g, off, rfl, _, gl, hc⟩
      · subst hr; simp at hlt
      have A0 := (hbr.cell (p := ⟨g, off + k * 2, Option.none⟩) gl).trans (hc k t ht).1
      have A1 := (hbr.cell (p := ⟨g, off + k * 2 + 1, Option.none⟩) gl).trans (hc k t ht).2
      have hd : Hid (ts.drop k = t :: ts.drop (k + 1)) := by
        show ts.drop k = t :: ts.drop (k + 1)
        rw [List.drop_eq_getElem_cons hlt]; congr 1; rw [List.getElem?_eq_getElem hlt] at ht; injection ht
      clear hc ht Hr hc0
      have HB := Lib.hid (fun o : Obj => hbr.alloc hbr.size o)
      clear hbr
      by_cases he : t.s = s
      · have he2 : Hid (arrGo ts 0 s = (k : Int)) := by show arrGo ts 0 s = (k : Int); rw [hg.out, hd.out, arrGo, if_pos he]
        subst he
        go_wp2
        go_ret
        exact retI he2.out.symm (HB.out _)
      · have he2 : Hid (arrGo ts 0 s = arrGo (ts.drop (k + 1)) (k + 1) s) := by show arrGo ts 0 s = _; rw [hg.out, hd.out, arrGo, if_neg he]
        have hne := str_ne he
        go_wp2
        go_roundw
        case rel => exact ⟨k + 1, by omega, by go_num, he2.out, HB.out _⟩
        case measure => simp [RowKit.intOf]; omega
    · have he2 : Hid (arrGo ts 0 s = -1) := by show arrGo ts 0 s = -1; rw [hg.out, List.drop_of_length_le (by omega)]; rfl
      go_wp2
      go_ret
      exact retI he2.out.symm hbr
end Go.Proofs.YtkhccpjkajhnpaaGreat
