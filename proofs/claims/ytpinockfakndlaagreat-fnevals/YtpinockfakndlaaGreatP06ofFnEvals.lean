import Derived.Test.YtpinockfakndlaaGreatP05ofFnEvals
import Derived.Deep.AppendLies
import Derived.Test.YtpinockfakndlaaGreatP01ofFnEvals
import Derived.Deep.RegionWith
import Derived.Deep.Cut
import Derived.Deep.CutRange
import Derived.Test.YtpinockfakndlaaGreatP00ofFnEvals
import Derived.Test.YtpinockfakndlaaGreatP02ofFnEvals
import Derived.Test.YtpinockfakndlaaGreatP03ofFnEvals
namespace Go.Proofs.YtpinockfakndlaaGreat
open Go.RowKit Go.Lib
set_option maxHeartbeats 1000000
set_option linter.unusedSimpArgs false
set_option linter.unusedVariables false
theorem new_rangeS (w : World) (arr : Array Value) (t : TypeId) : (w.alloc (.cells arr t)).rangeAt w.heap.size 0 arr.toList := blk_range (t := t) (fr := (0, 0)) (by show (w.heap.push _)[w.heap.size]? = _; simp)
theorem newsN (w : World) (cs : List Value) (t : TypeId) : ∀ j u, cs[j]? = some u → (w.alloc (.cells cs.toArray t)).cell? ((⟨w.heap.size, 0, Option.none⟩ : Addr).add j) = some u := fun j u hj => by
  have := new_rangeS w cs.toArray t j u (by simpa using hj)
  rw [Nat.zero_add] at this
  rw [Go.WideShapes.add_plain, Nat.zero_add]
  exact this
theorem ssize_app : ∀ (P R : SF), ssize (sapp P R) = ssize P + ssize R
  | .nil, R => by simp [sapp, ssize]
  | .node _ _ h l r, R => by have := ssize_app r R; simp only [sapp, ssize]; omega
structure Sts (B : Nat) (a : Option Addr) (len cap b : Nat) (w : World) (N : Nat) (P : SF) (xs : List Value) (t : Value) (wr : World) : Prop where
  own : wr.ownsRow N 98 19 t (slen P) xs
  row : SRx (gOf t) wr N P xs
  dw : Dw B a len cap b wr
  wr : Wr b w wr
  hN : w.heap.size = N
  hb : b < N
theorem Sts.glt {B : Nat} {a : Option Addr} {len cap b : Nat} {w : World} {N : Nat} {P : SF} {xs : List Value} {t : Value} {wr : World} (s : Sts B a len cap b w N P xs t wr) : gOf t < wr.heap.size := by
  unfold gOf
  cases h : t.ownBlock with
  | none => have := s.dw.cur.lt; simp only [Option.getD_none]; omega
  | some g => exact (s.own.lt g h).2
theorem Sts.step {B : Nat} {a : Option Addr} {len cap b : Nat} {w : World} {N : Nat} {P : SF} {xs : List Value} {t : Value} {wr w' : World} (s : Sts B a len cap b w N P xs t wr) (hw : Wr b wr w') (d : Dw B a len cap b w') : Sts B a len cap b w N P xs t w' :=
  ⟨own_wr s.own hw s.hb, s.row.step (fun _ _ e => e.wr hw (by have := s.hb; omega)) (fun _ _ e => e.wr hw (by have := s.hb; omega)), d, s.wr.trans hw, s.hN, s.hb⟩
theorem Sts.next {B : Nat} {a : Option Addr} {len cap b : Nat} {w : World} {N g c p q : Nat} {P : SF} {xs : List Value} {t : Value} {wr w1 w6 : World} {h : SH} {l : SF} {v1 v2 v3 v4 v : Value} (s : Sts B a len cap b w N P xs t w1) (hg0 : gOf t < wr.heap.size) (hwr : N ≤ wr.heap.size) (he : HV w1 wr.heap.size h v1 v2 v3 v4) (hs : SV w1 wr.heap.size l v)
    (hown : w6.ownsRow N 98 19 (.slice (some ⟨g, 0, Option.none⟩) (slen P + 1) c) (slen P + 1) (xs ++ scells h v1 v2 v3 v4 v)) {o : Obj} (hg : (w1.alloc o).grownBy w6 t.ownBlock) (hat : t.ownBlock = some g ∨ w1.heap.size + 1 ≤ g) :
    Sts B a len cap b w N (sapp P (.node p q h l .nil)) (xs ++ scells h v1 v2 v3 v4 v) (.slice (some ⟨g, 0, Option.none⟩) (slen P + 1) c) w6 := by
  have hb1 := aB w1 o
  have hN1 : N ≤ w1.heap.size := by have := s.wr.size; have := s.hN; omega
  have hBel : Below N w1 w6 := (hb1.mono hN1).grown hg (by simp; omega) (fun k hk => (s.own.lt k hk).1)
  have hel : slen (sapp P (.node p q h l .nil)) = slen P + 1 := by rw [slen_app]; rfl
  have hat' : t.ownBlock = some g ∨ (w1.alloc o).heap.size ≤ g := by rcases hat with e | e; exact .inl e; exact .inr (by simp; exact e)
  have fE : ∀ (F : EF) (z : Value), EVx (gOf t) w1 N F z → EVx g w6 N F z := fun F z hz => (hz.later hb1).grow (by have := s.hb; omega) hg hat'
  have fS : ∀ (F : SF) (z : Value), SVx (gOf t) w1 N F z → SVx g w6 N F z := fun F z hz => (hz.step (fun a u _ _ hc => keeps hb1 hc)).grow hg hat'
  refine ⟨by rw [hel]; exact hown, ?_, ⟨s.dw.hlen, s.dw.hB, s.dw.hC.later (hBel.mono (by have := s.dw.hB; have := s.hb; omega)), s.dw.cur.later (hBel.block b s.hb)⟩, ?_, s.hN, s.hb⟩
  · exact (s.row.step fE fS).app ⟨v1, v2, v3, v4, v, [], by rw [List.append_nil], ⟨fE _ _ (EVx.fresh he.e1 hwr hg0), fE _ _ (EVx.fresh he.e2 hwr hg0), fE _ _ (EVx.fresh he.e3 hwr hg0), fE _ _ (EVx.fresh he.e4 hwr hg0)⟩, fS _ _ (SVx.fresh hs hwr hg0), rfl⟩
  · exact ⟨hBel.os.trans s.wr.os, hBel.tape.trans s.wr.tape, hBel.output.trans s.wr.output, Nat.le_trans s.wr.size hBel.size, fun k hk hne => (hBel.block k (by have := s.hN; omega)).trans (s.wr.block k hk hne)⟩
theorem Sts.so {B : Nat} {a : Option Addr} {len cap b : Nat} {w : World} {N : Nat} {P : SF} {xs : List Value} {t : Value} {wr : World} (s : Sts B a len cap b w N P xs t wr) : SO wr N P t := ⟨xs, s.own, s.row⟩
theorem infoIS2 : (Tryz.prog.info? 98).map (fun i => (i.zero, i.size, i.bytes)) = some (some (.agg zero19), 19, 272) := by kernel_rfl
theorem ones19 {h : SH} {v1 v2 v3 v4 v : Value} {w : World} {lo : Nat} {l : SF} (he : HV w lo h v1 v2 v3 v4) (hs : SV w lo l v) : ∀ u ∈ scells h v1 v2 v3 v4 v, u.oneCell' = true := fun u hu => by
  have := oneS h v1 v2 v3 v4 v he.e1.isOne he.e2.isOne he.e3.isOne he.e4.isOne hs.isOne
  rw [Array.all_eq_true'] at this
  exact this u (by simpa using hu)
set_option maxRecDepth 100000 in
theorem l3Stmts_of (d : Nat) (hd : d ≤ 20) (B : Nat) (a : Option Addr) (len cap b lim : Nat)
    (ih : ∀ w, Dw B a len cap b w → Calls Tryz.prog 112 #[.pointer (some ⟨b, 0, none⟩), .int .i64 (d : Int)] w (DrawnS B a len cap b lim w))
    (most : Nat) (hm0 : 0 < most) (hm : most ≤ 100) (w : World) (hdw : Dw B a len cap b w) : Calls Tryz.prog 58 #[.pointer (some ⟨b, 0, none⟩), .int .i64 (d : Int), .int .i64 (most : Int)] w (DrawnR B a len cap b (most * (lim + 1)) w) := by
  obtain ⟨i0, hi, hz0, hz1, hz2⟩ := info_parts infoIS2
  have Hih := hid ih
  have HD := hid hdw
  have hbN := hdw.cur.lt
  clear ih hdw
  go_enter Tryz.func58, Tryz.ntmps58
  go_wp2_with fail
  have b0 := aB w (.cells #[] 98)
  refine (l1Below_is B a len cap b (most : Int) _ (HD.out.later b0) (by omega)).mono ?_
  rintro e w1 ⟨x, rfl, ⟨x0, x1⟩, d1, wr1⟩
  obtain ⟨y, rfl⟩ := Int.eq_ofNat_of_zero_le x0
  have S0 : Hid (Sts B a len cap b w w.heap.size .nil [] (.slice (some ⟨w.heap.size, 0, Option.none⟩) 0 0) w1) := hid ⟨own_wr ⟨rfl, .inr ⟨w.heap.size, 0, #[], rfl, Nat.le_refl _, by show (w.heap.push _)[w.heap.size]? = _; simp, Nat.le_refl _, by unfold maxLen; omega, rfl, rfl⟩⟩ wr1 hbN, rfl, d1, (Wr.of_below b0).trans wr1, rfl, hbN⟩
  have hyI : (y : Int) < 100 := by omega
  have hyw : IntKind.i64.wrap (1 + (y : Int)) = 1 + (y : Int) := wrap_small _ (by omega) (by omega)
  clear d1 wr1 b0 HD
  go_wp2
  go_loopw [7, 8] (fun t i wr => ∃ (P : SF) (xs : List Value) (j : Nat), i = .int .i64 (j : Int) ∧ j ≤ 101 ∧ slen P ≤ 1000 - j ∧ Hid (ssize P + j * (lim + 1) ≤ most * (lim + 1)) ∧ Hid (Sts B a len cap b w w.heap.size P xs t wr)) (fun _ i _ => (RowKit.intOf i).toNat)
  case atStart => exact ⟨.nil, [], y + 1, by go_num, by omega, by simp [slen], hid (by simp only [ssize]; rw [Nat.zero_add]; exact Nat.mul_le_mul_right _ (by omega)), S0⟩
  case round =>
    obtain ⟨P, xs, j, rfl, hj, hlen, hz, hS⟩ := hrel
    clear S0
    cases j with
    | zero =>
      go_wp2
      go_ret
      exact ⟨P, _, rfl, hS.out.so.sv, by have := hz.out; omega, hS.out.dw, hS.out.wr, hS.out.so⟩
    | succ j =>
      have hjI : (0 : Int) < ((j + 1 : Nat) : Int) := by omega
      have hjJ : (0 : Int) < (j : Int) + 1 := by omega
      have hgl := hS.out.glt
      have hsz := hS.out.wr.size
      obtain ⟨ta, tc, rfl⟩ := ownShape' hS.out.own
      go_wp2_with fail
      refine (Hih.out _ hS.out.dw).mono ?_
      rintro e w2 ⟨h, l, v1, v2, v3, v4, v, hret, he, hs, hlim, d2, wr2, _⟩
      obtain rfl : e = .returned (sagg h v1 v2 v3 v4 v) := hret
      have S2 := hid (hS.out.step wr2 d2)
      have HE := hid (And.intro he hs)
      have hw2 := wr2.size
      obtain ⟨va, vc, rfl⟩ := hs.shape
      obtain ⟨a1, e1, rfl⟩ := he.e1.shape
      obtain ⟨a2, e2, rfl⟩ := he.e2.shape
      obtain ⟨a3, e3, rfl⟩ := he.e3.shape
      obtain ⟨a4, e4, rfl⟩ := he.e4.shape
      clear he hs d2 wr2
      go_wp2_with (at_builtin; refine wpList_append_lies _ rfl _ _ 25 rfl w.heap.size 98 i0 _ 19 272 Tryz.underlying25 hi hz0 hz1 hz2 rfl (by decide) _ _ _ rfl (S2.out.own.alloc _) ⟨w2.heap.size, 0, Option.none⟩ 1 1 (scells h (.slice a1 (elen h.x1.l) e1) (.slice a2 (elen h.x2.l) e2) (.slice a3 (elen h.x3.l) e3) (.slice a4 (elen h.x4.l) e4) (.slice va (slen l) vc)) rfl rfl ?c1 ?c2 (by decide) ?c3 ?c4 ?c5 (w2.heap.size + 1) ?c6 ?_)
      case c1 => exact newsN _ _ _
      case c2 => exact ones19 HE.out.1 HE.out.2
      case c3 => unfold maxLen; omega
      case c4 => omega
      case c5 => simp; omega
      case c6 => simp
      intro g c6 w6 hown6 hgrow6 hat6 hlt6
      have S6 := hid (S2.out.next (p := 0) (q := 0) (wr := wr) hgl (by omega) HE.out.1 HE.out.2 hown6 hgrow6 (by rcases hat6 with e | e; exact .inl e; exact .inr (by omega)))
      have hjw : IntKind.i64.wrap (j : Int) = (j : Int) := wrap_small _ (by omega) (by omega)
      clear hown6 hgrow6 hat6 S2 HE
      go_wp2
      go_roundw
      case rel => exact ⟨sapp P (.node 0 0 h l .nil), _, j, by first | rfl | go_num, by omega, by rw [slen_app]; simp only [slen]; omega, hid (by rw [ssize_app]; simp only [ssize]; have := hz.out; rw [Nat.succ_mul] at this; omega), S6⟩
      case measure => first | (simp [RowKit.intOf]; done) | (simp [RowKit.intOf]; omega)
def limS : Nat → Nat
  | 0 => 100
  | d + 1 => 100 + 2 * (limS d + 1)
theorem l3DrawStmt_all (B : Nat) (a : Option Addr) (len cap b : Nat) : ∀ (d : Nat), d ≤ 20 → ∀ (w : World), Dw B a len cap b w → Calls Tryz.prog 112 #[.pointer (some ⟨b, 0, none⟩), .int .i64 (d : Int)] w (DrawnS B a len cap b (limS d) w)
  | 0, hd, w, h => l3DrawStmt_of 0 hd B a len cap b 0 (fun h => absurd h (by omega)) w h
  | d + 1, hd, w, h => l3DrawStmt_of (d + 1) hd B a len cap b (2 * (limS d + 1)) (fun _ w h => by
      rw [show ((d + 1 : Nat) : Int) - 1 = (d : Int) by omega]
      exact l3Stmts_of d (by omega) B a len cap b (limS d) (fun w h => l3DrawStmt_all B a len cap b d (by omega) w h) 2 (by omega) (by omega) w h) w h
theorem l3Stmts_is (d most : Nat) (hd : d ≤ 20) (hm0 : 0 < most) (hm : most ≤ 100) (B : Nat) (a : Option Addr) (len cap b : Nat) (w : World) (hdw : Dw B a len cap b w) : Calls Tryz.prog 58 #[.pointer (some ⟨b, 0, none⟩), .int .i64 (d : Int), .int .i64 (most : Int)] w (DrawnR B a len cap b (most * (limS d + 1)) w) :=
  l3Stmts_of d hd B a len cap b (limS d) (fun w h => l3DrawStmt_all B a len cap b d hd w h) most hm0 hm w hdw
structure AR where
  s : ByteArray
  n : Int
def AV (w : World) (lo : Nat) (v : Value) (ts : List AR) : Prop :=
  ∃ ao cap, v = .slice ao ts.length cap ∧ (ts = [] ∨ ∃ g off, ao = some ⟨g, off, Option.none⟩ ∧ lo ≤ g ∧ g < w.heap.size ∧ ∀ i t, ts[i]? = some t →
    w.cell? ⟨g, off + i * 2, Option.none⟩ = some (.string t.s) ∧ w.cell? ⟨g, off + i * 2 + 1, Option.none⟩ = some (.int .i64 t.n))
theorem AV.same {w w' : World} {lo lo' : Nat} {v : Value} {ts : List AR} (hlo : lo' ≤ lo) (h : AV w lo v ts) (hk : Keeps lo w w') (hz : w.heap.size ≤ w'.heap.size) : AV w' lo' v ts := by
  obtain ⟨ao, cap, hv, h⟩ := h
  refine ⟨ao, cap, hv, ?_⟩
  rcases h with h | ⟨g, off, h1, h0, h2, h3⟩
  · exact .inl h
  · refine .inr ⟨g, off, h1, Nat.le_trans hlo h0, Nat.lt_of_lt_of_le h2 hz, fun i t hi => ?_⟩
    obtain ⟨a, b⟩ := h3 i t hi
    exact ⟨hk _ _ h0 a, hk _ _ h0 b⟩
theorem AV.later {w w' : World} {lo : Nat} {v : Value} {ts : List AR} (h : AV w lo v ts) (hb : Below w.heap.size w w') : AV w' lo v ts := h.same (Nat.le_refl _) (Keeps.later hb) hb.size
theorem AV.low {w : World} {lo : Nat} {v : Value} {ts : List AR} (h : AV w lo v ts) : AV w 0 v ts := h.same (Nat.zero_le _) (Keeps.refl _ _) (Nat.le_refl _)
theorem AV.shape {w : World} {lo : Nat} {v : Value} {ts : List AR} (h : AV w lo v ts) : ∃ a c, v = .slice a ts.length c := by obtain ⟨a, c, h1, _⟩ := h; exact ⟨a, c, h1⟩
def abytes : List AR → Nat
  | [] => 0
  | t :: ts => t.s.size + abytes ts
def asize (ts : List AR) : Nat := ts.length + abytes ts
theorem take_snocA {ts : List AR} {k : Nat} {t : AR} (h : ts[k]? = some t) : ts.take (k + 1) = ts.take k ++ [t] := by
  rw [List.take_add_one, h]; rfl
def acells : List AR → List Value
  | [] => []
  | t :: ts => .string t.s :: .int .i64 t.n :: acells ts
theorem acells_len (ts : List AR) : (acells ts).length = ts.length * 2 := by
  induction ts with
  | nil => rfl
  | cons t ts ih => simp only [acells, List.length_cons, ih]; omega
theorem acells_snoc (ts : List AR) (t : AR) : acells (ts ++ [t]) = acells ts ++ [.string t.s, .int .i64 t.n] := by
  induction ts with
  | nil => rfl
  | cons u us ih => simp only [List.cons_append, acells, ih]
theorem acells_get (ts : List AR) : ∀ i t, ts[i]? = some t → (acells ts)[i * 2]? = some (.string t.s) ∧ (acells ts)[i * 2 + 1]? = some (.int .i64 t.n) := by
  induction ts with
  | nil => intro i t h; simp at h
  | cons u us ih =>
    intro i t h
    cases i with
    | zero => simp at h; subst h; exact ⟨rfl, rfl⟩
    | succ i =>
      have := ih i t (by simpa using h)
      rw [show (i + 1) * 2 = i * 2 + 2 by omega]
      simpa [acells] using this
theorem AV.laid {w : World} {g c : Nat} {ts : List AR} (hg : g < w.heap.size) (hr : w.rangeAt g 0 (acells ts)) : AV w g (.slice (some ⟨g, 0, Option.none⟩) ts.length c) ts :=
  ⟨_, c, rfl, .inr ⟨g, 0, rfl, Nat.le_refl _, hg, fun i t hi => ⟨hr _ _ (acells_get ts i t hi).1, by have := hr _ _ (acells_get ts i t hi).2; rwa [← Nat.add_assoc] at this⟩⟩⟩
theorem infoIA : (Tryz.prog.info? 82).map (fun i => (i.zero, i.size, i.bytes)) = some (some (.agg #[.string ⟨#[]⟩, .int .i64 0]), 2, 24) := by kernel_rfl
theorem sizeIA : (Tryz.prog.info? 82).map (·.size) = some 2 := by kernel_rfl
theorem all2 (t : ByteArray) (k : Int) : (#[.string t, .int .i64 k] : Array Value).all (·.oneCell') = true :=
  all_oneCell_toArray (cs := [.string t, .int .i64 k]) (fun v hv => by
    simp only [List.mem_cons, List.not_mem_nil, or_false] at hv
    rcases hv with rfl | rfl <;> rfl)
theorem heap_last (v : World) (o : Obj) : (v.alloc o).heap[v.heap.size]? = some o := by show (v.heap.push o)[v.heap.size]? = _; simp
theorem blk2 {w : World} {b : Nat} {x y : Value} {t : TypeId} (h : w.heap[b]? = some (.cells #[x, y] t (0, 0))) :
    (w.cell? ⟨b, 0, Option.none⟩ = some x ∧ w.cell? ⟨b, 1, Option.none⟩ = some y) ∧ w.frozen? ⟨b, 0, Option.none⟩ = false ∧ w.frozen? ⟨b, 1, Option.none⟩ = false := by
  simp [World.cell?, World.frozen?, h]
theorem arrAt_cells {w : World} {v : Value} {ts : List AR} (h : AV w 0 v ts) (hne : ts ≠ []) : ∃ g off cap, v = .slice (some ⟨g, off, Option.none⟩) ts.length cap ∧ ∀ i t, ts[i]? = some t → w.cell? ⟨g, off + i * 2, Option.none⟩ = some (.string t.s) ∧ w.cell? ⟨g, off + i * 2 + 1, Option.none⟩ = some (.int .i64 t.n) := by
  obtain ⟨ao, cap, rfl, h⟩ := h
  rcases h with h | ⟨g, off, rfl, _, _, h3⟩
  · exact absurd h hne
  · exact ⟨g, off, cap, rfl, h3⟩
def arrGo : List AR → Nat → ByteArray → Int
  | [], _, _ => -1
  | t :: ts, k, s => if t.s = s then k else arrGo ts (k + 1) s
theorem spec_ArrAt (ts : List AR) (hn : ts.length ≤ 1048576) (s : ByteArray) (va vb : Value) (hvb : vb.oneCell' = true) (w : World) (ha : AV w 0 va ts) :
    Calls Tryz.prog 87 #[.agg #[va, vb], .string s] w fun e w' => e = .returned (.int .i64 (arrGo ts 0 s)) ∧ Below w.heap.size w w' := by
  obtain ⟨ao, cap, rfl, hr⟩ := ha
  have Hr := hid hr
  clear hr
  have hc0 : (w.alloc (.cells #[.slice ao ts.length cap, vb] 27)).cell? ⟨w.heap.size, 0, Option.none⟩ = some (.slice ao ts.length cap) := box_cell (Below.refl _ _) rfl
  have B := hid (aB w (.cells #[.slice ao ts.length cap, vb] 27))
  go_enter Tryz.func87, Tryz.ntmps87
  go_wp2
  go_loopw [5] (fun i wr => ∃ k : Nat, k ≤ ts.length ∧ i = .int .i64 k ∧ Hid (arrGo ts 0 s = arrGo (ts.drop k) k s) ∧ Hid (wr = w.alloc (.cells #[.slice ao ts.length cap, vb] 27))) (fun i _ => ts.length - (RowKit.intOf i).toNat)
  case atStart => exact ⟨0, by omega, rfl, (by show arrGo ts 0 s = arrGo (ts.drop 0) 0 s; rw [List.drop_zero]), rfl⟩
  case round =>
    obtain ⟨k, hk, rfl, hg, hw⟩ := hrel
    obtain rfl := hw.out
    by_cases hlt : k < ts.length
    · have hltI : (k : Int) < (ts.length : Int) := by omega
      obtain ⟨t, ht⟩ : ∃ t, ts[k]? = some t := ⟨ts[k], List.getElem?_eq_getElem hlt⟩
      rcases Hr.out with hr | ⟨g, off, rfl, _, gl, hc⟩
      · subst hr; simp at hlt
      have A0 := (B.out.cell (p := ⟨g, off + k * 2, Option.none⟩) gl).trans (hc k t ht).1
      have hd : Hid (ts.drop k = t :: ts.drop (k + 1)) := by
        show ts.drop k = t :: ts.drop (k + 1)
        rw [List.drop_eq_getElem_cons hlt]; congr 1; rw [List.getElem?_eq_getElem hlt] at ht; injection ht
      clear hc ht Hr
      by_cases he : t.s = s
      · have he2 : Hid (arrGo ts 0 s = (k : Int)) := by show arrGo ts 0 s = (k : Int); rw [hg.out, hd.out, arrGo, if_pos he]
        subst he
        go_wp2
        go_ret
        exact retI he2.out.symm B.out
      · have he2 : Hid (arrGo ts 0 s = arrGo (ts.drop (k + 1)) (k + 1) s) := by show arrGo ts 0 s = _; rw [hg.out, hd.out, arrGo, if_neg he]
        have hne := str_ne he
        go_wp2
        go_roundw
        case rel => exact ⟨k + 1, by omega, by go_num, he2.out, trivial⟩
        case measure => simp [RowKit.intOf]; omega
    · have he2 : Hid (arrGo ts 0 s = -1) := by show arrGo ts 0 s = -1; rw [hg.out, List.drop_of_length_le (by omega)]; rfl
      go_wp2
      go_ret
      exact retI he2.out.symm B.out
theorem newthere2 (w : World) (x y : Value) (t : TypeId) : (w.alloc (.cells #[x, y] t)).there w.heap.size 0 2 := blk_there (arr := #[x, y]) (t := t) (by show (w.heap.push _)[w.heap.size]? = _; simp) (Nat.le_refl 2)
end Go.Proofs.YtpinockfakndlaaGreat
