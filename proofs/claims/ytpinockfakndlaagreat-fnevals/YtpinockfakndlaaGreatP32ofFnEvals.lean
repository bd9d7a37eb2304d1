import Derived.Test.YtpinockfakndlaaGreatZp
import Derived.Test.YtpinockfakndlaaGreatP09ofFnEvals
import Derived.Test.YtpinockfakndlaaGreatP30ofFnEvals
import Derived.Test.YtpinockfakndlaaGreatP31ofFnEvals
import Derived.Test.YtpinockfakndlaaGreatP19ofFnEvals
import Derived.Test.YtpinockfakndlaaGreatP20ofFnEvals
import Derived.Test.YtpinockfakndlaaGreatP27ofFnEvals
namespace Go.Proofs.YtpinockfakndlaaGreat
open Go.RowKit Go.Lib
set_option maxRecDepth 100000
set_option maxHeartbeats 2000000
set_option linter.unusedSimpArgs false
set_option linter.unusedVariables false
def isStrV : Value → Bool
  | .string _ => true
  | _ => false
theorem str_cell (w : World) (cs : Array Value) (n : Nat) (hn : cs.size = n) (hcs : cs.toList.all isStrV = true) (j : Nat) (hjn : j < n) : ∃ z : ByteArray, (w.alloc (.cells cs 9)).cell? ⟨w.heap.size, j, Option.none⟩ = some (.string z) ∧ True := by
  have hj : j < cs.size := by omega
  have h1 : isStrV cs[j] = true := List.all_eq_true.1 hcs cs[j] (Array.getElem_mem_toList hj)
  have h2 := heap_last w (.cells cs 9)
  cases h3 : cs[j] with
  | string z =>
    refine ⟨z, ?_, trivial⟩
    simp only [World.cell?, h2]
    rw [Array.getElem?_eq_getElem hj, h3]
    rfl
  | _ => rw [h3] at h1; cases h1
theorem l1Once_isP (B : Nat) (a : Option Addr) (len cap b : Nat) (n : Int) (w : World) (d : Dw B a len cap b w) (hn0 : 0 < n) :
    Calls Tryz.prog 47 #[.pointer (some ⟨b, 0, none⟩), .int .i64 n] w fun e w' => ∃ x : Bool, e = .returned (.bool x) ∧ Dw B a len cap b w' ∧ Wr b w w' :=
  (l1Once B a len cap b n w d.hlen d.hB d.hC d.cur hn0).mono fun e w' ⟨x, h1, h2, h3⟩ => ⟨x, h1, d.touch h3 h2, .of_touch h3⟩
theorem l2Prog_is (B : Nat) (a : Option Addr) (len cap b : Nat) (w : World) (hdw : Dw B a len cap b w) :
    Calls Tryz.prog 49 #[.pointer (some ⟨b, 0, none⟩)] w fun e w' => ∃ x : ByteArray, e = .returned (.string x) ∧ Dw B a len cap b w' ∧ Wr b w w' := by
  have HD := hid hdw
  have hbN := hdw.cur.lt
  clear hdw
  go_enter Tryz.func49, Tryz.ntmps49
  go_wp2_with fail
  have b0 := aB w
  refine (l1Str_is B a len cap b w.heap.size 12 12 (fun _ => True) _ (HD.out.later (b0 _)) (by omega) (by omega) (by omega) (fun j hj => str_cell w _ 12 (by kernel_rfl) (by kernel_rfl) j hj)).mono ?_
  rintro e w3 ⟨s, rfl, _, d3, wr3⟩
  have H3 := hid (And.intro d3 ((Wr.of_below (b0 _)).trans wr3))
  clear d3 wr3 b0 HD
  go_wp2
  go_ret
  exact ⟨_, rfl, H3.out.1, H3.out.2⟩
theorem readP_size {l : List UInt8} {ts : List AR} {F : SF} (h : readP l = some (ts, F)) : ts.length ≤ 1000 ∧ (∀ t ∈ ts, t.s.size ≤ 6) ∧ ssize F ≤ 40000 ∧ progB ts F = true := by
  unfold readP at h
  cases hl : lex l with
  | none => rw [hl] at h; cases h
  | some k =>
    rw [hl] at h
    have hg := lex_good hl
    have h6 : P6 k := fun t ht => good_len5 (hg.1 t ht)
    change progP k = _ at h
    unfold progP at h
    split at h
    · cases h
    rename_i ar l1 ha
    split at h
    · cases h
    rename_i G hG
    split at h
    · rename_i hp
      injection h with h
      injection h with h1 h2
      subst h1; subst h2
      obtain ⟨s1, s2, c, hc⟩ := arrs_size _ _ _ _ _ h6 (by intro t ht; cases ht) ha
      have h7 : P6 l1 := fun t ht => h6 t (by rw [hc]; exact List.mem_append_right _ ht)
      have s3 := all_size _ _ _ h7 hG
      have := hg.2
      simp only [List.length_nil] at s2
      exact ⟨by omega, s1, by omega, hp⟩
    · cases h
def DrawnA (B : Nat) (a : Option Addr) (len cap b : Nat) (w : World) (e : Ending) (w' : World) : Prop :=
  ∃ (ts : List AR) (F : SF) (va vb : Value), e = .returned (.agg #[va, vb]) ∧ AV w' w.heap.size va ts ∧ SV w' w.heap.size F vb ∧ ts.length ≤ 1000 ∧ (∀ t ∈ ts, t.s.size ≤ 6) ∧ ssize F ≤ 40000 ∧ Dw B a len cap b w' ∧ Wr b w w'
theorem wr_sets {b N : Nat} {w0 w W : World} {vs : List Value} (hw : Wr b w0 w) (hN : w0.heap.size ≤ N) (hW : w.setCells N 0 vs = W) : Wr b w0 W := by
  have hB : Below w0.heap.size w W := by rw [← hW]; exact below_sets _ _ (Below.refl _ _) hN
  exact ⟨hB.os.trans hw.os, hB.tape.trans hw.tape, hB.output.trans hw.output, Nat.le_trans hw.size hB.size, fun k hk hne => (hB.block k hk).trans (hw.block k hk hne)⟩
theorem DrawnA.close {B len cap b : Nat} {a : Option Addr} {w w2 W : World} {ts : List AR} {F : SF} {va vb : Value} (hth : w2.there w.heap.size 0 2) (hb : b < w.heap.size) (hW : w2.setCells w.heap.size 0 [va, vb] = W) (ha : AV w2 (w.heap.size + 1) va ts) (hs : SV w2 (w.heap.size + 1) F vb) (h3 : ts.length ≤ 1000) (ht : ∀ t ∈ ts, t.s.size ≤ 6) (hl : ssize F ≤ 40000) (d : Dw B a len cap b w2) (hw : Wr b w w2) :
    DrawnA B a len cap b w (.returned (.agg #[va, vb])) W ∧ W.rangeAt w.heap.size 0 [va, vb] := by
  have hB : Below w.heap.size w2 W := by rw [← hW]; exact below_sets _ _ (Below.refl _ _) (Nat.le_refl _)
  have hk : Keeps (w.heap.size + 1) w2 W := by rw [← hW]; exact Keeps.sets _ (by omega) _ _
  have h3' := d.hB
  refine ⟨⟨ts, F, va, vb, rfl, ha.same (by omega) hk hB.size, hs.same (by omega) hk, h3, ht, hl, ⟨d.hlen, d.hB, d.hC.later (hB.mono (by omega)), d.cur.later (hB.block b (by omega))⟩, wr_sets hw (Nat.le_refl _) hW⟩, by rw [← hW]; exact World.rangeAt_setCells_same _ _ _ _ hth⟩
theorem newArr2P {w2 W : World} {x0 x1 y0 y1 : Value} {t : TypeId} (hW : (w2.alloc (.cells #[x0, x1] t)).setCells w2.heap.size 0 [y0, y1] = W) : W.heap[w2.heap.size]? = some (.cells #[y0, y1] t (0, 0)) ∧ Below w2.heap.size w2 W := newArr2 hW
theorem l7Any_is (B : Nat) (a : Option Addr) (len cap b : Nat) (w : World) (hdw : Dw B a len cap b w) : Calls Tryz.prog 22 #[.pointer (some ⟨b, 0, none⟩)] w (DrawnA B a len cap b w) := by
  have HD := hid hdw
  have hbN := hdw.cur.lt
  clear hdw
  go_enter Tryz.func22, Tryz.ntmps22
  go_wp2_with fail
  have b0 := aB w (.cells #[nilS, nilS] 27)
  have hs0 : (w.alloc (.cells #[nilS, nilS] 27)).heap.size = w.heap.size + 1 := by simp
  refine (l1Once_isP B a len cap b 2 _ (HD.out.later b0) (by omega)).mono ?_
  rintro e w1 ⟨x, rfl, d1, wr1⟩
  have hw1 := wr1.size
  rw [hs0] at hw1
  have HS1 := hid hw1
  have T1 := hid (there_wr (newthere2 w nilS nilS 27) wr1 (by omega))
  have D1 := hid (And.intro d1 ((Wr.of_below b0).trans wr1))
  clear d1 wr1 b0 hs0 HD hw1
  cases x with
  | true =>
    go_wp2_with fail
    refine (l4Prog_is B a len cap b _ D1.out.1).mono ?_
    rintro e w2 ⟨ts, F, va, vb, rfl, g1, g2, s1, s2, s3, d2, wr2⟩
    obtain ⟨aa, ac, rfl⟩ := g1.shape
    obtain ⟨ba, bc, rfl⟩ := g2.shape
    have T2 := hid (there_wr T1.out wr2 (by omega))
    have G2 := hid (And.intro (g1.same HS1.out (Keeps.refl _ _) (Nat.le_refl _)) (g2.lower HS1.out))
    have L2 : Hid (ts.length ≤ 1000 ∧ (∀ t ∈ ts, t.s.size ≤ 6) ∧ ssize F ≤ 40000) := ⟨by omega, fun t ht => Nat.le_trans (s2 t ht) (by omega), Nat.le_trans s3 (by decide)⟩
    have D2 := hid (And.intro d2 (D1.out.2.trans wr2))
    clear g1 g2 s1 s2 s3 d2 wr2 D1 T1
    go_wp2_with (refine sA rfl 27 _ _ rfl w.heap.size 0 #[.slice aa ts.length ac, .slice ba (slen F) bc] rfl rfl T2.out sizePg (oneP2 _ _ _ _ _ _) ?_; intro W hW; have HW := hid hW; clear hW)
    have hC := DrawnA.close T2.out hbN HW.out G2.out.1 G2.out.2 L2.out.1 L2.out.2.1 L2.out.2.2 D2.out.1 D2.out.2
    have hlv := run_loadVar_mid W w.heap.size 0 _ _ _ hC.2 Tryz.underlying27 rfl sizePg
    refine bodyPost_ret (v := .agg #[.slice aa ts.length ac, .slice ba (slen F) bc]) ?_ rfl hC.1
    simp [results, Tryz.results22, asAddr, hlv, Act.put]
    try rfl
  | false =>
    go_wp2_with fail
    refine (l2Prog_is B a len cap b _ D1.out.1).mono ?_
    rintro e w2 ⟨s, rfl, d2, wr2⟩
    have T2 := hid (there_wr T1.out wr2 (by omega))
    have hw2 := wr2.size
    have HS2 : Hid (w.heap.size + 1 ≤ w2.heap.size) := hid (Nat.le_trans HS1.out hw2)
    have D2 := hid (And.intro d2 (D1.out.2.trans wr2))
    obtain ⟨o, ho⟩ : ∃ o, Hid (readP s.data.toList = o) := ⟨_, rfl⟩
    clear d2 wr2 D1 T1 HS1 hw2
    go_wp2_with fail
    refine (spec_Parse s o ho.out _).mono ?_
    rintro e w3 ⟨⟨ua, ub, rfl, g1, g2⟩, hb3⟩
    obtain ⟨ts, hts⟩ : ∃ z, Hid (o.elim [] (·.1) = z) := ⟨_, rfl⟩
    obtain ⟨F, hF⟩ : ∃ z, Hid (o.elim .nil (·.2) = z) := ⟨_, rfl⟩
    have L3 : Hid (ts.length ≤ 1000 ∧ (∀ t ∈ ts, t.s.size ≤ 6) ∧ ssize F ≤ 40000) := by
      show _ ∧ _
      rw [← hts.out, ← hF.out]
      cases o with
      | none => exact ⟨Nat.zero_le _, fun t ht => (by cases ht), Nat.zero_le _⟩
      | some p => have h := readP_size (ts := p.1) (F := p.2) ho.out; exact ⟨h.1, h.2.1, h.2.2.1⟩
    rw [hts.out] at g1
    rw [hF.out] at g2
    obtain ⟨aa, ac, rfl⟩ := g1.shape
    obtain ⟨ba, bc, rfl⟩ := g2.shape
    obtain ⟨ob, hob⟩ : ∃ z, Hid (o.isSome = z) := ⟨_, rfl⟩
    rw [hob.out]
    have T3 := hid (there_later T2.out hb3)
    have G3 := hid (And.intro (g1.same HS2.out (Keeps.refl _ _) (Nat.le_refl _)) (g2.lower HS2.out))
    have D3 := hid (And.intro (D2.out.1.later hb3) (D2.out.2.trans (Wr.of_below hb3)))
    have HS3 : Hid (w.heap.size + 1 ≤ w3.heap.size) := hid (Nat.le_trans HS2.out hb3.size)
    clear g1 g2 hb3 T2 D2 HS2 hts hF hob ho
    have T4 := newthere2 w3 nilS nilS 27
    go_wp2_with (first | (refine sA rfl 27 _ _ rfl w3.heap.size 0 #[.slice aa ts.length ac, .slice ba (slen F) bc] rfl rfl T4 sizePg (oneP2 _ _ _ _ _ _) ?_; intro W hW; have HW := hid (newArr2P hW); have R4 := blk_range HW.out.1; have T5 := there_later T3.out HW.out.2; have hlt : w.heap.size + 1 ≤ w3.heap.size := HS3.out; clear hW) | (refine wpList_load_mid rfl 27 _ rfl w3.heap.size 0 rfl _ _ R4 Tryz.underlying27 rfl sizePg ?_) | (refine sA rfl 27 _ _ rfl w.heap.size 0 #[.slice aa ts.length ac, .slice ba (slen F) bc] rfl rfl T5 sizePg (oneP2 _ _ _ _ _ _) ?_; intro W2 hW2; have HW2 := hid hW2; clear hW2))
    have hC := DrawnA.close T5 hbN HW2.out (G3.out.1.same (Nat.le_refl _) (Keeps.later HW.out.2) HW.out.2.size) (G3.out.2.same (Nat.le_refl _) (Keeps.later HW.out.2)) L3.out.1 L3.out.2.1 L3.out.2.2 (D3.out.1.later HW.out.2) (D3.out.2.trans (Wr.of_below HW.out.2))
    have hlv := run_loadVar_mid W2 w.heap.size 0 _ _ _ hC.2 Tryz.underlying27 rfl sizePg
    refine bodyPost_ret (v := .agg #[.slice aa ts.length ac, .slice ba (slen F) bc]) ?_ rfl hC.1
    simp [results, Tryz.results22, asAddr, hlv, Act.put]
    try rfl
def DrawnN (w : World) (e : Ending) (w' : World) : Prop := ∃ (ts : List AR) (F : SF) (va vb : Value), e = .returned (.agg #[va, vb]) ∧ AV w' w.heap.size va ts ∧ SV w' w.heap.size F vb ∧ ts.length ≤ 1000 ∧ (∀ t ∈ ts, t.s.size ≤ 6) ∧ ssize F ≤ 40000 ∧ Below w.heap.size w w'
theorem DrawStoNew_is (a : Option Addr) (len cap : Nat) (w : World) (hlen : len ≤ 281474976710656) (hC : CodeIs w.heap.size w a len) : Calls Tryz.prog 18 #[.slice a len cap] w (DrawnN w) := by
  have HC := hid hC
  clear hC
  go_enter Tryz.func18, Tryz.ntmps18
  go_wp2_with fail
  have b0 := aB w (.cells #[nilS, nilS] 27)
  have C1 : CodeIs (w.heap.size + 1) (w.alloc (.cells #[nilS, nilS] 27)) a len := (HC.out.later b0).mono (by omega)
  refine (l1New (w.heap.size + 1) a len cap _ hlen C1).mono ?_
  rintro e w1 ⟨rfl, hcur, hb1⟩
  have hs1 : (w.alloc (.cells #[nilS, nilS] 27)).heap.size = w.heap.size + 1 := by simp
  rw [hs1] at hcur hb1 ⊢
  have D1 : Hid (Dw (w.heap.size + 1) a len cap (w.heap.size + 1) w1) := ⟨hlen, Nat.le_refl _, C1.later hb1, hcur⟩
  have th1 : w1.there w.heap.size 0 2 := there_later (newthere2 w nilS nilS 27) (by rw [hs1]; exact hb1)
  have B1 : Below w.heap.size w w1 := b0.trans (hb1.mono (by omega))
  have H1 := hid (And.intro th1 B1)
  clear C1 hcur hb1 th1 B1 b0 hs1
  go_wp2_with fail
  refine (l7Any_is (w.heap.size + 1) a len cap (w.heap.size + 1) _ D1.out).mono ?_
  rintro e w2 ⟨ts, F, va, vb, rfl, g1, g2, s1, s2, s3, d2, wr2⟩
  have th2 := there_wr H1.out.1 wr2 (by omega)
  have hl : w.heap.size + 1 ≤ w1.heap.size := Nat.le_of_lt D1.out.cur.lt
  have B2 : Below w.heap.size w w2 := H1.out.2.trans (wr2.belowLo (by omega) (by omega))
  obtain ⟨aa, ac, rfl⟩ := g1.shape
  obtain ⟨ba, bc, rfl⟩ := g2.shape
  have H2 := hid (And.intro (g1.same hl (Keeps.refl _ _) (Nat.le_refl _)) (And.intro (g2.lower hl) (And.intro (And.intro s1 (And.intro s2 s3)) B2)))
  clear g1 g2 s1 s2 s3 d2 wr2 B2 H1 D1
  go_wp2_with (refine sA rfl 27 _ _ rfl w.heap.size 0 #[.slice aa ts.length ac, .slice ba (slen F) bc] rfl rfl th2 sizePg (oneP2 _ _ _ _ _ _) ?_; intro W hW; have HW := hid hW; clear hW)
  have hW := HW.out
  have rg : W.rangeAt w.heap.size 0 [.slice aa ts.length ac, .slice ba (slen F) bc] := by rw [← hW]; exact World.rangeAt_setCells_same _ _ _ _ th2
  have hlv := run_loadVar_mid W w.heap.size 0 _ _ _ rg Tryz.underlying27 rfl sizePg
  have hk : Keeps (w.heap.size + 1) w2 W := by rw [← hW]; exact Keeps.sets _ (by omega) _ _
  have hB : Below w.heap.size w W := by rw [← hW]; exact below_sets _ _ H2.out.2.2.2 (Nat.le_refl _)
  have hz : w2.heap.size ≤ W.heap.size := by rw [← hW, size_sets]; exact Nat.le_refl _
  refine bodyPost_ret (v := .agg #[.slice aa ts.length ac, .slice ba (slen F) bc]) ?_ rfl ⟨ts, F, _, _, rfl, H2.out.1.same (Nat.le_succ _) hk hz, H2.out.2.1.same (Nat.le_succ _) hk, H2.out.2.2.1.1, H2.out.2.2.1.2.1, H2.out.2.2.1.2.2, hB⟩
  simp [results, Tryz.results18, asAddr, hlv, Act.put]
  try rfl
theorem wp_make_full {P : Program} (w : World) {o : Oper} {a : Act} {K : Act → World → Prop} {Q : Exit → Act → World → Prop} (l c : Operand) (t : TypeId) (hop : o.op = Op.makeSlice t l c)
    (base : Nat) (e : TypeId) (i : TypeInfo) (z : Value) (size : Nat) (h1 : P.underlying t = some (.slice e)) (h2 : P.info? e = some i) (h3 : i.zero = some z) (h4 : i.size = size)
    (kl kc : IntKind) (n : Nat) (hl : a.eval l = .int kl (n : Int)) (hc : a.eval c = .int kc (n : Int)) (b2 : i.bytes * n ≤ 281474976710656) (b3 : n ≤ maxLen) (b4 : base ≤ w.heap.size)
    (hK : ∀ w', w'.ownsRow base e size (.slice (some ⟨w.heap.size, 0, none⟩) n n) n (madeCells z.cells (n * size)).toList → w.grownBy w' none → K (a.put o.dst (.slice (some ⟨w.heap.size, 0, none⟩) n n)) w') : o.wp P a w K Q := by
  obtain ⟨w', hrun, r1, r2⟩ := run_make_full (P := P) w base t e i z size h1 h2 h3 h4 kl kc n b2 b3 b4
  unfold Oper.wp
  simp [execOp, hop, hl, hc, hrun, Result.andThen]
  exact hK w' r1 r2
theorem nz_in {n : Int} {m : Nat} (h : n = (m : Int)) (hm : m ≤ 16) : nz n = List.replicate m 0 := by subst h; rw [nz, if_neg (by omega)]; rfl
theorem nz_out {n : Int} (h : ¬ (0 ≤ n ∧ n ≤ 16)) : nz n = List.replicate 0 0 := by rw [nz, if_pos (by omega)]; rfl
theorem spec_StoNew (ts : List AR) (F : SF) (n : Nat) (hn : n ≤ 10000000) (hl : ts.length ≤ 1048576) (va vb : Value) (w : World) (ha : AV w 0 va ts) (hb : SV w 0 F vb)
    (hV : ∀ w v, SV w 0 F v → Calls Tryz.prog 35 #[v] w fun e w' => ∃ a c, e = .returned (.slice a n c) ∧ Below w.heap.size w w') :
    Calls Tryz.prog 20 #[.agg #[va, vb]] w (NewSto w ts n) := by
  have HA := hid (And.intro ha hb)
  have HV := hid hV
  obtain ⟨a1, c1, rfl⟩ := ha.shape
  obtain ⟨a2, c2, rfl⟩ := hb.shape
  obtain ⟨i0, hi, hz0, hz1, hz2⟩ := info_parts infoI8
  obtain ⟨j0, hj, hy0, hy1, hy2⟩ := info_parts infoIS8
  have HI := hid (And.intro hi (And.intro hz0 (And.intro hz1 hz2)))
  have HJ := hid (And.intro hj (And.intro hy0 (And.intro hy1 hy2)))
  clear ha hb hV hi hz0 hz1 hz2 hj hy0 hy1 hy2
  have b2 : Hid (Below w.heap.size w ((w.alloc (.cells #[.slice a1 ts.length c1, .slice a2 (slen F) c2] 27)).alloc (.cells #[.slice Option.none 0 0, .slice Option.none 0 0, .slice Option.none 0 0, .int .i64 0] 33))) := (aB w _).alloc (by simp) _
  have p0 : Hid (((w.alloc (.cells #[.slice a1 ts.length c1, .slice a2 (slen F) c2] 27)).alloc (.cells #[.slice Option.none 0 0, .slice Option.none 0 0, .slice Option.none 0 0, .int .i64 0] 33)).heap[w.heap.size]? = some (.cells #[.slice a1 ts.length c1, .slice a2 (slen F) c2] 27 (0, 0))) := by
    show _ = _
    rw [Below.heap_alloc _ _ _ (by simp)]; exact blkLast _ _
  have p1 : Hid (((w.alloc (.cells #[.slice a1 ts.length c1, .slice a2 (slen F) c2] 27)).alloc (.cells #[.slice Option.none 0 0, .slice Option.none 0 0, .slice Option.none 0 0, .int .i64 0] 33)).heap[w.heap.size + 1]? = some (.cells #[.slice Option.none 0 0, .slice Option.none 0 0, .slice Option.none 0 0, .int .i64 0] 33 (0, 0))) :=
    (congrArg (fun n => ((w.alloc (.cells #[.slice a1 ts.length c1, .slice a2 (slen F) c2] 27)).alloc (.cells #[.slice Option.none 0 0, .slice Option.none 0 0, .slice Option.none 0 0, .int .i64 0] 33)).heap[n]?) (show w.heap.size + 1 = (w.alloc (.cells #[.slice a1 ts.length c1, .slice a2 (slen F) c2] 27)).heap.size by simp)).trans (blkLast _ _)
  go_enter Tryz.func20, Tryz.ntmps20
  go_wp2_with fail
  refine (HV.out _ _ (HA.out.2.later b2.out)).mono ?_
  rintro e w1 ⟨av, cv, rfl, hb1⟩
  have B1 := hid (b2.out.trans (hb1.mono b2.out.size))
  have q0 := hid ((hb1.block _ (lt_heap p0.out)).trans p0.out)
  have q1 := hid ((hb1.block _ (lt_heap p1.out)).trans p1.out)
  clear hb1 b2 p0 p1
  go_wp2_with (refine wpList_make_full _ rfl _ _ 31 rfl w1.heap.size 3 i0 _ 1 Tryz.underlying31 HI.out.1 HI.out.2.1 HI.out.2.2.1 .i64 .i64 _ _ n rfl rfl rfl rfl ?c1 ?c2 ?c3 ?_)
  case c1 => have := HI.out.2.2.2; first | omega | (rw [this]; omega)
  case c2 => unfold maxLen; omega
  try (case c3 => exact Nat.le_refl _)
  intro w2 hown hgrow
  have HF := hid (fresh_made hown hgrow)
  have r0 := hid ((HF.out.2.block _ (lt_heap q0.out)).trans q0.out)
  have r1 := hid ((HF.out.2.block _ (lt_heap q1.out)).trans q1.out)
  clear hown hgrow q0 q1
  go_wp2_with (refine sA rfl 33 _ _ rfl w2.heap.size 0 #[.slice Option.none 0 0, .slice (some ⟨w1.heap.size, 0, Option.none⟩) n n, .slice Option.none 0 0, .int .i64 0] rfl rfl ?ht0 sizeSto ?ho0 ?_; exact (thSto4 _ _ _ _ _ _); exact (one4 rfl rfl rfl rfl); intro W hW; have HW := hid (newSto4 hW); have y0 : W.cell? ⟨w.heap.size, 0, Option.none⟩ = some (.slice a1 ts.length c1) := (blk2 ((HW.out.2.block _ (lt_heap r0.out)).trans r0.out)).1.1; clear hW)
  obtain ⟨N, hN⟩ : ∃ N, N = w2.heap.size := ⟨_, rfl⟩
  have S0 := hid (StB.start (w0 := w) (B := w.heap.size) HF.out B1.out B1.out.size HW.out.2 HW.out.1 (Nat.le_trans B1.out.size HF.out.2.size))
  have z0 := hid ((HW.out.2.block _ (lt_heap r0.out)).trans r0.out)
  have z1 := hid ((HW.out.2.block _ (lt_heap r1.out)).trans r1.out)
  rw [← hN] at S0
  rw [← hN]
  obtain ⟨V, hVv⟩ : ∃ V : Value, V = .slice (some ⟨w1.heap.size, 0, Option.none⟩) n n := ⟨_, rfl⟩
  rw [← hVv] at S0
  rw [← hVv]
  have V1 : V.oneCell' = true := by rw [hVv]; rfl
  have Nlt : w.heap.size + 1 < N := by have := lt_heap r1.out; omega
  clear HW r0 r1 hN hVv HF y0
  go_loopw [4] (fun i wr => ∃ k : Nat, k ≤ ts.length ∧ i = .int .i64 k ∧ Hid (∃ ua rs, StB w wr w.heap.size N ua rs (V, List.replicate n 0) ∧ rs.map (·.2) = zrows (ts.take k) ∧ rs.length = k ∧ wr.heap[w.heap.size + 1]? = some (.cells #[.slice Option.none 0 0, .slice Option.none 0 0, .slice Option.none 0 0, .int .i64 0] 33 (0, 0)) ∧ wr.heap[w.heap.size]? = some (.cells #[.slice a1 ts.length c1, .slice a2 (slen F) c2] 27 (0, 0)) ∧ w.heap.size + 1 < N)) (fun i _ => ts.length - (RowKit.intOf i).toNat)
  case atStart => exact ⟨0, by omega, rfl, ⟨_, [], S0.out, by simp [zrows], rfl, z1.out, z0.out, Nlt⟩⟩
  case round =>
    obtain ⟨k, hk, rfl, hin⟩ := hrel
    by_cases hlt : k < ts.length
    · have hltI : (k : Int) < (ts.length : Int) := by omega
      obtain ⟨t, ht⟩ : ∃ t, ts[k]? = some t := ⟨ts[k], List.getElem?_eq_getElem hlt⟩
      obtain ⟨ua, rs, hs, hz, hlen, hR, hP, hlt2⟩ := hin.out
      obtain ⟨g1, o1, rfl, hc0, hc1⟩ : ∃ g off, a1 = some ⟨g, off, Option.none⟩ ∧ wr.cell? ⟨g, off + k * 2, Option.none⟩ = some (.string t.s) ∧ wr.cell? ⟨g, off + k * 2 + 1, Option.none⟩ = some (.int .i64 t.n) := by
        obtain ⟨g, off, cc, e, hcc⟩ := arrAt_cells (HA.out.1.later hs.low) (fun e => by subst e; simp at ht)
        injection e with e
        exact ⟨g, off, e, hcc k t ht⟩
      obtain ⟨⟨x0, _⟩, _⟩ := blk2 hP
      have HS := hid hs
      have HR := hid (And.intro hR hP)
      have HZ0 : Hid (rs.map (·.2) ++ [nz t.n] = zrows (ts.take (k + 1))) := show rs.map (·.2) ++ [nz t.n] = zrows (ts.take (k + 1)) by rw [zrows_take ht, hz]
      subst hlen
      clear hs hR hP hz hin ht hc0
      by_cases hin : 0 ≤ t.n ∧ t.n ≤ 16
      · obtain ⟨m, hm⟩ : ∃ m : Nat, t.n = (m : Int) := ⟨t.n.toNat, by omega⟩
        have hm16 : m ≤ 16 := by omega
        have HZ : Hid (rs.map (·.2) ++ [List.replicate m 0] = zrows (ts.take (rs.length + 1))) := show rs.map (·.2) ++ [List.replicate m 0] = _ by rw [← nz_in hm hm16]; exact HZ0.out
        have hb1 : (decide (0 ≤ (m : Int)) && decide ((m : Int) ≤ 16)) = true := by rw [← hm]; simp [hin]
        rw [hm] at hc1
        clear HZ0 hin hm
        go_wp2_with fail
        refine (l1In_is (m : Int) 0 16 _).mono ?_
        rintro e w9 ⟨rfl, rfl⟩
        rw [hb1]
        clear hc1 hb1
        go_wp2_with fail
        refine region_drew (by kernel_rfl) (fun wd hwd => ?_)
        have bd : Below wr.heap.size wr wd := by rw [hwd]; exact (Below.refl _ wr).drew
        clear hwd
        have HS2 := hid (HS.out.later bd)
        have HR2 := hid (And.intro ((bd.block _ (lt_heap HR.out.1)).trans HR.out.1) ((bd.block _ (lt_heap HR.out.2)).trans HR.out.2))
        obtain ⟨⟨s0, _, _, _⟩, _⟩ := blk4 HS2.out.blk
        clear HS HR bd x0
        refine wpAny_take (i := 0) (v := .pointer (some ⟨N, 0, Option.none⟩)) rfl (by kernel_rfl) (by kernel_rfl) (by kernel_rfl) (fun _ _ _ => id) (Or.inl ⟨by rfl, ?b0m⟩) ?_
        case b0m => intro w; go_simp
        simp only [Act.put, zp]
        refine wpAny_take (i := 2) (v := .int .i64 ((m : Nat) : Int)) rfl (by kernel_rfl) (by kernel_rfl) (by kernel_rfl) (fun _ _ _ => id) (Or.inl ⟨by rfl, ?b2m⟩) ?_
        case b2m => intro w; go_simp
        simp only [Act.put, zp]
        refine wpAny_till (i := 1) (v := ua) (fun w' => w'.cell? ⟨N, 0, Option.none⟩ = some ua) rfl (by kernel_rfl) (by kernel_rfl) (by kernel_rfl) (fun _ _ _ => id) (Or.inl ⟨by rfl, ?b1m⟩) s0 (fun hHeld => ?_)
        case b1m => intro w hSw; go_simp
        simp only [Act.put, zp]
        refine wpAnyD_ready (rs := [3]) (by kernel_rfl) (by simp) ?_
        refine AllReadyD.cons rfl (fun K hK => ?_) AllReadyD.nil
        rw [if_pos (by rfl)]
        simp only [zq]
        refine wp_make_full wd _ _ 31 rfl wd.heap.size 3 i0 _ 1 Tryz.underlying31 HI.out.1 HI.out.2.1 HI.out.2.2.1 .i64 .i64 m (by rfl) (by rfl) (by have := HI.out.2.2.2; rw [this]; omega) (by unfold maxLen; omega) (Nat.le_refl _) ?_
        intro w3 hown3 hgrow3
        have hf3 := fresh_made (n := m) (by simpa [Value.cells] using hown3) hgrow3
        have HF3 := hid hf3
        have s3 := keeps hf3.2 s0
        have HS3 := hid (HS2.out.later hf3.2)
        have HR3 := hid (And.intro ((hf3.2.block _ (lt_heap HR2.out.1)).trans HR2.out.1) ((hf3.2.block _ (lt_heap HR2.out.2)).trans HR2.out.2))
        clear hf3 HR2 hown3 hgrow3
        refine hK.out _ _ (fun _ => s3) ?_
        try simp only [Act.put, zp]
        refine wpAnyD_ready (rs := [4]) (by kernel_rfl) (by simp) ?_
        refine AllReadyD.cons rfl (fun K hK => ?_) AllReadyD.nil
        rw [if_pos (by rfl)]
        simp only [zq]
        go_wp2_with fail
        refine hK.out _ _ (fun _ => keeps (aB _ _) s3) ?_
        try simp only [Act.put, zp]
        refine wpAnyD_ready (rs := [5]) (by kernel_rfl) (by simp) ?_
        refine AllReadyD.cons rfl (fun K hK => ?_) AllReadyD.nil
        rw [if_pos (by rfl)]
        simp only [zq]
        refine wp_append_lies _ _ _ 30 (by rfl) w.heap.size 31 j0 _ 1 24 Tryz.underlying30 HJ.out.1 HJ.out.2.1 HJ.out.2.2.1 HJ.out.2.2.2 rfl (by decide) ua rs.length (rs.map (·.1)) (by rfl) (ownB HS3.out.out (aB _ _)) ⟨w3.heap.size, 0, Option.none⟩ 1 1 [.slice (some ⟨wd.heap.size, 0, Option.none⟩) m m] (by rfl) (by rfl) ?k1m ?k2m (by decide) ?k3m ?k4m ?k5m (w3.heap.size + 1) (by simp) ?_
        case k1m => exact new1 _ _ _
        case k2m => intro u hu; simp at hu; subst hu; rfl
        case k3m => unfold maxLen; omega
        case k4m => omega
        case k5m => have := HS3.out.ge.2; simp; omega
        intro g c6 w6 hown6 hgrow6 hat6 hlt6
        have N6 := hid (HS2.out.next HF3.out rfl hown6 hgrow6)
        have nR : Hid (w6.heap[w.heap.size + 1]? = some (.cells #[.slice Option.none 0 0, .slice Option.none 0 0, .slice Option.none 0 0, .int .i64 0] 33 (0, 0))) := by
            have h0 := (Below.heap_alloc w3 (.cells #[.slice (some ⟨wd.heap.size, 0, Option.none⟩) m m] 31) _ (lt_heap HR3.out.1)).trans HR3.out.1
            exact (hgrow6.block _ (by have := lt_heap h0; exact this) (fun e => own_ne (ownB HS3.out.out (aB w3 (.cells #[.slice (some ⟨wd.heap.size, 0, Option.none⟩) m m] 31))) h0 (by decide) e.symm)).trans h0
        have nP : Hid (w6.heap[w.heap.size]? = some (.cells #[.slice (some ⟨g1, o1, Option.none⟩) ts.length c1, .slice a2 (slen F) c2] 27 (0, 0))) := by
            have h0 := (Below.heap_alloc w3 (.cells #[.slice (some ⟨wd.heap.size, 0, Option.none⟩) m m] 31) _ (lt_heap HR3.out.2)).trans HR3.out.2
            exact (hgrow6.block _ (by have := lt_heap h0; exact this) (fun e => own_ne (ownB HS3.out.out (aB w3 (.cells #[.slice (some ⟨wd.heap.size, 0, Option.none⟩) m m] 31))) h0 (by decide) e.symm)).trans h0
        have nN : Hid (w6.heap[N]? = some (.cells #[ua, V, .slice Option.none 0 0, .int .i64 0] 33 (0, 0))) := by
            have h0 := (Below.heap_alloc w3 (.cells #[.slice (some ⟨wd.heap.size, 0, Option.none⟩) m m] 31) _ (lt_heap HS3.out.blk)).trans HS3.out.blk
            exact (hgrow6.block _ (by have := lt_heap h0; exact this) (fun e => own_ne (ownB HS3.out.out (aB w3 (.cells #[.slice (some ⟨wd.heap.size, 0, Option.none⟩) m m] 31))) h0 (by decide) e.symm)).trans h0
        obtain ⟨⟨d0, _, _, _⟩, f0, _⟩ := blk4 nN.out
        clear hown6 hgrow6 hat6 hlt6 HS2 HS3 HR3 HF3
        refine hK.out _ _ (fun e => absurd e (waitsN (by kernel_rfl))) ?_
        try simp only [Act.put, zp]
        refine wpAnyD_ready (rs := [6]) (by kernel_rfl) (by simp) ?_
        refine AllReadyD.cons rfl (fun K hK => ?_) AllReadyD.nil
        rw [if_pos (by rfl)]
        simp only [zq]
        go_wp2_with fail
        refine hK.out _ _ (fun e => absurd e (waitsN (by kernel_rfl))) ?_
        try simp only [Act.put, zp]
        refine wpAnyD_ready (rs := [7]) (by kernel_rfl) (by simp) ?_
        refine AllReadyD.cons rfl (fun K hK => ?_) AllReadyD.nil
        rw [if_pos (by rfl)]
        simp only [zq]
        go_wp2_with fail
        refine hK.out _ _ (fun e => absurd e (waitsN (by kernel_rfl))) ?_
        try simp only [Act.put, zp]
        refine wpAnyD_done (by kernel_rfl) ?_ _
        have M1 : Hid ((w6.setCell ⟨N, 0, Option.none⟩ (.slice (some ⟨g, 0, Option.none⟩) (rs.length + 1) c6)).heap[w.heap.size + 1]? = some (.cells #[.slice Option.none 0 0, .slice Option.none 0 0, .slice Option.none 0 0, .int .i64 0] 33 (0, 0))) := (Below.heap_setCell _ _ _ _ (by show w.heap.size + 1 ≠ N; omega)).trans nR.out
        have M2 : Hid ((w6.setCell ⟨N, 0, Option.none⟩ (.slice (some ⟨g, 0, Option.none⟩) (rs.length + 1) c6)).heap[w.heap.size]? = some (.cells #[.slice (some ⟨g1, o1, Option.none⟩) ts.length c1, .slice a2 (slen F) c2] 27 (0, 0))) := (Below.heap_setCell _ _ _ _ (by show w.heap.size ≠ N; omega)).trans nP.out
        clear nR nP nN d0 f0
        go_wp2
        go_roundw
        case rel => exact ⟨rs.length + 1, by omega, by go_num, ⟨_, _, N6.out, by rw [List.map_append]; exact HZ.out, by simp, M1.out, M2.out, hlt2⟩⟩
        case measure => simp [RowKit.intOf]; omega
      · have HZ : Hid (rs.map (·.2) ++ [List.replicate 0 0] = zrows (ts.take (rs.length + 1))) := show rs.map (·.2) ++ [List.replicate 0 0] = _ by rw [← nz_out hin]; exact HZ0.out
        have hb1 : (decide (0 ≤ t.n) && decide (t.n ≤ 16)) = false := by
          rcases Int.lt_or_le t.n 0 with h | h
          · rw [decide_eq_false (by omega)]; rfl
          · rw [decide_eq_false (p := t.n ≤ 16) (by omega)]; simp
        clear HZ0 hin
        go_wp2_with fail
        refine (l1In_is t.n 0 16 _).mono ?_
        rintro e w9 ⟨rfl, rfl⟩
        rw [hb1]
        clear hc1 hb1
        go_wp2_with fail
        refine region_drew (by kernel_rfl) (fun wd hwd => ?_)
        have bd : Below wr.heap.size wr wd := by rw [hwd]; exact (Below.refl _ wr).drew
        clear hwd
        have HS2 := hid (HS.out.later bd)
        have HR2 := hid (And.intro ((bd.block _ (lt_heap HR.out.1)).trans HR.out.1) ((bd.block _ (lt_heap HR.out.2)).trans HR.out.2))
        obtain ⟨⟨s0, _, _, _⟩, _⟩ := blk4 HS2.out.blk
        clear HS HR bd x0
        refine wpAny_take (i := 0) (v := .pointer (some ⟨N, 0, Option.none⟩)) rfl (by kernel_rfl) (by kernel_rfl) (by kernel_rfl) (fun _ _ _ => id) (Or.inl ⟨by rfl, ?b0z⟩) ?_
        case b0z => intro w; go_simp
        simp only [Act.put, zp]
        refine wpAny_take (i := 2) (v := .int .i64 (0 : Int)) rfl (by kernel_rfl) (by kernel_rfl) (by kernel_rfl) (fun _ _ _ => id) (Or.inl ⟨by rfl, ?b2z⟩) ?_
        case b2z => intro w; go_simp
        simp only [Act.put, zp]
        refine wpAny_till (i := 1) (v := ua) (fun w' => w'.cell? ⟨N, 0, Option.none⟩ = some ua) rfl (by kernel_rfl) (by kernel_rfl) (by kernel_rfl) (fun _ _ _ => id) (Or.inl ⟨by rfl, ?b1z⟩) s0 (fun hHeld => ?_)
        case b1z => intro w hSw; go_simp
        simp only [Act.put, zp]
        refine wpAnyD_ready (rs := [3]) (by kernel_rfl) (by simp) ?_
        refine AllReadyD.cons rfl (fun K hK => ?_) AllReadyD.nil
        rw [if_pos (by rfl)]
        simp only [zq]
        refine wp_make_full wd _ _ 31 rfl wd.heap.size 3 i0 _ 1 Tryz.underlying31 HI.out.1 HI.out.2.1 HI.out.2.2.1 .i64 .i64 0 (by rfl) (by rfl) (by have := HI.out.2.2.2; rw [this]; omega) (by unfold maxLen; omega) (Nat.le_refl _) ?_
        intro w3 hown3 hgrow3
        have hf3 := fresh_made (n := 0) (by simpa [Value.cells] using hown3) hgrow3
        have HF3 := hid hf3
        have s3 := keeps hf3.2 s0
        have HS3 := hid (HS2.out.later hf3.2)
        have HR3 := hid (And.intro ((hf3.2.block _ (lt_heap HR2.out.1)).trans HR2.out.1) ((hf3.2.block _ (lt_heap HR2.out.2)).trans HR2.out.2))
        clear hf3 HR2 hown3 hgrow3
        refine hK.out _ _ (fun _ => s3) ?_
        try simp only [Act.put, zp]
        refine wpAnyD_ready (rs := [4]) (by kernel_rfl) (by simp) ?_
        refine AllReadyD.cons rfl (fun K hK => ?_) AllReadyD.nil
        rw [if_pos (by rfl)]
        simp only [zq]
        go_wp2_with fail
        refine hK.out _ _ (fun _ => keeps (aB _ _) s3) ?_
        try simp only [Act.put, zp]
        refine wpAnyD_ready (rs := [5]) (by kernel_rfl) (by simp) ?_
        refine AllReadyD.cons rfl (fun K hK => ?_) AllReadyD.nil
        rw [if_pos (by rfl)]
        simp only [zq]
        refine wp_append_lies _ _ _ 30 (by rfl) w.heap.size 31 j0 _ 1 24 Tryz.underlying30 HJ.out.1 HJ.out.2.1 HJ.out.2.2.1 HJ.out.2.2.2 rfl (by decide) ua rs.length (rs.map (·.1)) (by rfl) (ownB HS3.out.out (aB _ _)) ⟨w3.heap.size, 0, Option.none⟩ 1 1 [.slice (some ⟨wd.heap.size, 0, Option.none⟩) 0 0] (by rfl) (by rfl) ?k1z ?k2z (by decide) ?k3z ?k4z ?k5z (w3.heap.size + 1) (by simp) ?_
        case k1z => exact new1 _ _ _
        case k2z => intro u hu; simp at hu; subst hu; rfl
        case k3z => unfold maxLen; omega
        case k4z => omega
        case k5z => have := HS3.out.ge.2; simp; omega
        intro g c6 w6 hown6 hgrow6 hat6 hlt6
        have N6 := hid (HS2.out.next HF3.out rfl hown6 hgrow6)
        have nR : Hid (w6.heap[w.heap.size + 1]? = some (.cells #[.slice Option.none 0 0, .slice Option.none 0 0, .slice Option.none 0 0, .int .i64 0] 33 (0, 0))) := by
            have h0 := (Below.heap_alloc w3 (.cells #[.slice (some ⟨wd.heap.size, 0, Option.none⟩) 0 0] 31) _ (lt_heap HR3.out.1)).trans HR3.out.1
            exact (hgrow6.block _ (by have := lt_heap h0; exact this) (fun e => own_ne (ownB HS3.out.out (aB w3 (.cells #[.slice (some ⟨wd.heap.size, 0, Option.none⟩) 0 0] 31))) h0 (by decide) e.symm)).trans h0
        have nP : Hid (w6.heap[w.heap.size]? = some (.cells #[.slice (some ⟨g1, o1, Option.none⟩) ts.length c1, .slice a2 (slen F) c2] 27 (0, 0))) := by
            have h0 := (Below.heap_alloc w3 (.cells #[.slice (some ⟨wd.heap.size, 0, Option.none⟩) 0 0] 31) _ (lt_heap HR3.out.2)).trans HR3.out.2
            exact (hgrow6.block _ (by have := lt_heap h0; exact this) (fun e => own_ne (ownB HS3.out.out (aB w3 (.cells #[.slice (some ⟨wd.heap.size, 0, Option.none⟩) 0 0] 31))) h0 (by decide) e.symm)).trans h0
        have nN : Hid (w6.heap[N]? = some (.cells #[ua, V, .slice Option.none 0 0, .int .i64 0] 33 (0, 0))) := by
            have h0 := (Below.heap_alloc w3 (.cells #[.slice (some ⟨wd.heap.size, 0, Option.none⟩) 0 0] 31) _ (lt_heap HS3.out.blk)).trans HS3.out.blk
            exact (hgrow6.block _ (by have := lt_heap h0; exact this) (fun e => own_ne (ownB HS3.out.out (aB w3 (.cells #[.slice (some ⟨wd.heap.size, 0, Option.none⟩) 0 0] 31))) h0 (by decide) e.symm)).trans h0
        obtain ⟨⟨d0, _, _, _⟩, f0, _⟩ := blk4 nN.out
        clear hown6 hgrow6 hat6 hlt6 HS2 HS3 HR3 HF3
        refine hK.out _ _ (fun e => absurd e (waitsN (by kernel_rfl))) ?_
        try simp only [Act.put, zp]
        refine wpAnyD_ready (rs := [6]) (by kernel_rfl) (by simp) ?_
        refine AllReadyD.cons rfl (fun K hK => ?_) AllReadyD.nil
        rw [if_pos (by rfl)]
        simp only [zq]
        go_wp2_with fail
        refine hK.out _ _ (fun e => absurd e (waitsN (by kernel_rfl))) ?_
        try simp only [Act.put, zp]
        refine wpAnyD_ready (rs := [7]) (by kernel_rfl) (by simp) ?_
        refine AllReadyD.cons rfl (fun K hK => ?_) AllReadyD.nil
        rw [if_pos (by rfl)]
        simp only [zq]
        go_wp2_with fail
        refine hK.out _ _ (fun e => absurd e (waitsN (by kernel_rfl))) ?_
        try simp only [Act.put, zp]
        refine wpAnyD_done (by kernel_rfl) ?_ _
        have M1 : Hid ((w6.setCell ⟨N, 0, Option.none⟩ (.slice (some ⟨g, 0, Option.none⟩) (rs.length + 1) c6)).heap[w.heap.size + 1]? = some (.cells #[.slice Option.none 0 0, .slice Option.none 0 0, .slice Option.none 0 0, .int .i64 0] 33 (0, 0))) := (Below.heap_setCell _ _ _ _ (by show w.heap.size + 1 ≠ N; omega)).trans nR.out
        have M2 : Hid ((w6.setCell ⟨N, 0, Option.none⟩ (.slice (some ⟨g, 0, Option.none⟩) (rs.length + 1) c6)).heap[w.heap.size]? = some (.cells #[.slice (some ⟨g1, o1, Option.none⟩) ts.length c1, .slice a2 (slen F) c2] 27 (0, 0))) := (Below.heap_setCell _ _ _ _ (by show w.heap.size ≠ N; omega)).trans nP.out
        clear nR nP nN d0 f0
        go_wp2
        go_roundw
        case rel => exact ⟨rs.length + 1, by omega, by go_num, ⟨_, _, N6.out, by rw [List.map_append]; exact HZ.out, by simp, M1.out, M2.out, hlt2⟩⟩
        case measure => simp [RowKit.intOf]; omega
    · obtain rfl : k = ts.length := by omega
      rw [List.take_length] at hin
      have hin' := hin.out
      obtain ⟨ua, rs, hs, hz, hlen, hR, hP, hlt2⟩ := hin'
      have HS := hid hs
      have HR := hid hR
      have HZ := hid hz
      have ha1 : ua.oneCell' = true := by obtain ⟨p, q, e⟩ := iownShape hs.out; rw [e]; rfl
      obtain ⟨⟨t0, t1, t2, t3⟩, _⟩ := blk4 hs.blk
      have RG : Hid (wr.rangeAt N 0 [ua, V, .slice Option.none 0 0, .int .i64 0]) := blk_range hs.blk
      obtain ⟨⟨x0, x1⟩, _⟩ := blk2 hP
      have TR : Hid (wr.there (w.heap.size + 1) 0 4) := blkNone HR.out
      clear hs hR hz hin hP hlt2 hlen t0 t1 t2 t3
      go_wp2_with (first | (refine wpList_load_mid rfl 33 _ rfl N 0 rfl _ _ RG.out Tryz.underlying33 rfl sizeSto ?_) | (refine sA rfl 33 _ _ rfl (w.heap.size + 1) 0 #[ua, V, .slice Option.none 0 0, .int .i64 0] rfl rfl TR.out sizeSto (one4 ha1 V1 rfl rfl) ?_; intro W2 hW2))
      obtain ⟨e1, e2, e3⟩ := HS.out.close HR.out (by omega) hW2
      have hlv := run_loadVar_mid W2 (w.heap.size + 1) 0 _ _ _ (blk_range e3) Tryz.underlying33 rfl sizeSto
      refine bodyPost_ret (v := .agg #[ua, V, .slice Option.none 0 0, .int .i64 0]) ?_ rfl ⟨ua, V, rs, rfl, HZ.out, e1, e2⟩
      simp [results, Tryz.results20, asAddr, hlv, Act.put]
      try rfl
structure QW (B : Nat) (a : Option Addr) (len cap b C N : Nat) (ua : Value) (hs : List (Value × Nat)) (v : Value) (vn : Nat) (w0 w : World) (rs : List VR) (V : List Int) : Prop where
  blk : w.heap[N]? = some (.cells #[ua, v, .slice Option.none 0 0, .int .i64 0] 33 (0, 0))
  sto : StoO w C ua rs (v, V) (.slice Option.none 0 0, [])
  sh : rs.map (fun r => (r.1, r.2.length)) = hs
  vl : V.length = vn
  dw : Dw B a len cap b w
  wr : Wr b w0 w
  hb : b < w0.heap.size ∧ w0.heap.size ≤ C ∧ C ≤ N
section
variable {B : Nat} {a : Option Addr} {len cap b C N : Nat} {ua : Value} {hs : List (Value × Nat)} {v : Value} {vn : Nat} {w0 w : World} {rs : List VR} {V : List Int}
theorem QW.turn {w' : World} (h : QW B a len cap b C N ua hs v vn w0 w rs V) (hw : Wr b w w') (d : Dw B a len cap b w') : QW B a len cap b C N ua hs v vn w0 w' rs V :=
  ⟨(hw.block N (lt_heap h.blk) (by have := h.hb; omega)).trans h.blk, ⟨own_wr h.sto.out hw (Nat.lt_of_lt_of_le h.hb.1 h.hb.2.1), ⟨fun r hr => own_wr (h.sto.own.own r hr) hw (Nat.lt_of_lt_of_le h.hb.1 h.hb.2.1), h.sto.own.apart⟩⟩, h.sh, h.vl, d, h.wr.trans hw, h.hb⟩
theorem QW.later {w' : World} (h : QW B a len cap b C N ua hs v vn w0 w rs V) (hb : Below w.heap.size w w') : QW B a len cap b C N ua hs v vn w0 w' rs V := h.turn (.of_below hb) (h.dw.later hb)
theorem QW.cells (h : QW B a len cap b C N ua hs v vn w0 w rs V) : w.cell? ⟨N, 0, Option.none⟩ = some ua ∧ w.cell? ⟨N, 1, Option.none⟩ = some v := ⟨blk_range h.blk 0 _ rfl, blk_range h.blk 1 _ rfl⟩
theorem QW.putV {g c k : Nat} {n : Int} (h : QW B a len cap b C N ua hs (.slice (some ⟨g, 0, Option.none⟩) vn c) vn w0 w rs V) :
    QW B a len cap b C N ua hs (.slice (some ⟨g, 0, Option.none⟩) vn c) vn w0 (w.setCell ⟨g, k, Option.none⟩ (.int .i64 n)) rs (V.set k n) := by
  have hv := h.sto.own.own (.slice (some ⟨g, 0, Option.none⟩) vn c, V) (by simp)
  simp only [h.vl] at hv
  have hgs := grownBy_set (w := w) (g := g) ⟨g, k, Option.none⟩ rfl (.int .i64 n)
  have hne : ∀ (N : Nat) (ar : Array Value) (t : TypeId), t ≠ 3 → w.heap[N]? = some (.cells ar t (0, 0)) → N ≠ g := fun N ar t ht hN e => own_ne hv hN ht (by rw [e]; rfl)
  have n1 := iown_put (j := k) hv (.int .i64 n)
  have e1 : (ints V).set k (.int .i64 n) = ints (V.set k n) := by simp only [ints, List.map_set]
  rw [e1] at n1
  have hB : Below C w (w.setCell ⟨g, k, Option.none⟩ (.int .i64 n)) := (Below.refl _ _).setCell (p := ⟨g, k, Option.none⟩) (hv.lt g rfl).1 _
  have hh := h.hb
  refine ⟨(hgs.block N (lt_heap h.blk) (fun e => hne N _ _ (by decide) h.blk (by injection e))).trans h.blk, ⟨ownG h.sto.out hgs (fun k hk => own_own h.sto.out hv (by decide) k hk), ?_⟩, h.sh, by rw [List.length_set]; exact h.vl, ⟨h.dw.hlen, h.dw.hB, h.dw.hC.later (hB.mono (by have := h.dw.hB; omega)), h.dw.cur.later (hB.block b (by omega))⟩, ⟨hB.os.trans h.wr.os, hB.tape.trans h.wr.tape, hB.output.trans h.wr.output, Nat.le_trans h.wr.size hB.size, fun k hk hne => (hB.block k (by omega)).trans (h.wr.block k hk hne)⟩, hh⟩
  · exact Owns.put (P := rs) (Q := [(.slice Option.none 0 0, [])]) (r := (.slice (some ⟨g, 0, Option.none⟩) vn c, V)) (r' := (.slice (some ⟨g, 0, Option.none⟩) vn c, V.set k n)) h.sto.own rfl hgs (by rw [List.length_set]; simp only [h.vl]; exact n1)
theorem QW.putA {g c k m ln : Nat} {n : Int} {xs : List Int} (h : QW B a len cap b C N ua hs v vn w0 w rs V) (hr : rs[k]? = some (.slice (some ⟨g, 0, Option.none⟩) ln c, xs)) (hl : xs.length = ln) :
    QW B a len cap b C N ua hs v vn w0 (w.setCell ⟨g, m, Option.none⟩ (.int .i64 n)) (rs.set k (.slice (some ⟨g, 0, Option.none⟩) ln c, xs.set m n)) V := by
  subst hl
  have hmem : ((.slice (some ⟨g, 0, Option.none⟩) xs.length c, xs) : VR) ∈ rs := List.mem_of_getElem? hr
  have hkl : k < rs.length := (List.getElem?_eq_some_iff.1 hr).1
  have hv := h.sto.own.own (.slice (some ⟨g, 0, Option.none⟩) xs.length c, xs) (List.mem_append_left _ hmem)
  have hgs := grownBy_set (w := w) (g := g) ⟨g, m, Option.none⟩ rfl (.int .i64 n)
  have hne : ∀ (N : Nat) (ar : Array Value) (t : TypeId), t ≠ 3 → w.heap[N]? = some (.cells ar t (0, 0)) → N ≠ g := fun N ar t ht hN e => own_ne hv hN ht (by rw [e]; rfl)
  have n1 := iown_put (j := m) hv (.int .i64 n)
  have e1 : (ints xs).set m (.int .i64 n) = ints (xs.set m n) := by simp only [ints, List.map_set]
  simp only at n1
  rw [e1] at n1
  have e2 : rs = rs.take k ++ (.slice (some ⟨g, 0, Option.none⟩) xs.length c, xs) :: rs.drop (k + 1) := by rw [← drop_step hr, List.take_append_drop]
  have e3 : rs.set k (.slice (some ⟨g, 0, Option.none⟩) xs.length c, xs.set m n) = rs.take k ++ (.slice (some ⟨g, 0, Option.none⟩) xs.length c, xs.set m n) :: rs.drop (k + 1) := List.set_eq_take_append_cons_drop .. |>.trans (by rw [if_pos hkl])
  have e5 : ∀ {α : Type} (f : VR → α), f (.slice (some ⟨g, 0, Option.none⟩) xs.length c, xs.set m n) = f (.slice (some ⟨g, 0, Option.none⟩) xs.length c, xs) → (rs.set k (.slice (some ⟨g, 0, Option.none⟩) xs.length c, xs.set m n)).map f = rs.map f := by
    intro α f hf
    rw [e3]
    conv => rhs; rw [e2]
    rw [List.map_append, List.map_append, List.map_cons, List.map_cons, hf]
  have hB : Below C w (w.setCell ⟨g, m, Option.none⟩ (.int .i64 n)) := (Below.refl _ _).setCell (p := ⟨g, m, Option.none⟩) (hv.lt g rfl).1 _
  have hh := h.hb
  refine ⟨(hgs.block N (lt_heap h.blk) (fun e => hne N _ _ (by decide) h.blk (by injection e))).trans h.blk, ⟨?_, ?_⟩, ?_, h.vl, ⟨h.dw.hlen, h.dw.hB, h.dw.hC.later (hB.mono (by have := h.dw.hB; omega)), h.dw.cur.later (hB.block b (by omega))⟩, ⟨hB.os.trans h.wr.os, hB.tape.trans h.wr.tape, hB.output.trans h.wr.output, Nat.le_trans h.wr.size hB.size, fun k hk hne => (hB.block k (by omega)).trans (h.wr.block k hk hne)⟩, hh⟩
  · rw [List.length_set, e5 _ rfl]
    exact ownG h.sto.out hgs (fun k hk => own_own h.sto.out hv (by decide) k hk)
  · rw [e3, List.append_assoc, List.cons_append]
    refine Owns.put (P := rs.take k) (Q := rs.drop (k + 1) ++ [(v, V), (.slice Option.none 0 0, [])]) (r := (.slice (some ⟨g, 0, Option.none⟩) xs.length c, xs)) (r' := (.slice (some ⟨g, 0, Option.none⟩) xs.length c, xs.set m n)) ?_ rfl hgs (by rw [List.length_set]; exact n1)
    have := h.sto.own
    rw [e2, List.append_assoc, List.cons_append] at this
    simpa using this
  · rw [← h.sh]
    exact e5 (fun r => (r.1, r.2.length)) (by simp)
theorem QW.head {k ln : Nat} {u : Value} (h : QW B a len cap b C N ua hs v vn w0 w rs V) (hk : hs[k]? = some (u, ln)) : ∃ xs, rs[k]? = some (u, xs) ∧ xs.length = ln := by
  rw [← h.sh, List.getElem?_map] at hk
  cases hr : rs[k]? with
  | none => rw [hr] at hk; cases hk
  | some r =>
    rw [hr] at hk
    injection hk with hk
    injection hk with h1 h2
    subst h1
    exact ⟨r.2, rfl, h2⟩
end
end Go.Proofs.YtpinockfakndlaaGreat
