/-
  Texts in one: EvImpl, AstTop, AstCount.
-/
import Derived.Test.YtfoghiminlbdaaaGreatP07ofRun
import Derived.Test.YtfoghiminlbdaaaGreatP04ofRun
import Derived.Test.YtfoghiminlbdaaaGreatP02ofRun
import Derived.Test.YtfoghiminlbdaaaGreatP03ofRun
import Derived.OneCell
namespace Go.Proofs.YtfoghiminlbdaaaGreat
open Go.RowKit Go.Lib
set_option linter.unusedSimpArgs false
set_option linter.unusedVariables false
def idxGo : List ByteArray → Nat → ByteArray → Int
  | [], _, _ => -1
  | t :: ts, k, s => if t = s then k else idxGo ts (k + 1) s
theorem idxGo_bd (s : ByteArray) : ∀ (ns : List ByteArray) (k : Nat), idxGo ns k s = -1 ∨ ((k : Int) ≤ idxGo ns k s ∧ idxGo ns k s < (k : Int) + ns.length)
  | [], _ => .inl rfl
  | t :: ts, k => by
    rw [idxGo]
    split
    · exact .inr ⟨by omega, by simp; omega⟩
    · rcases idxGo_bd s ts (k + 1) with h | ⟨h1, h2⟩
      · exact .inl h
      · exact .inr ⟨by omega, by simp only [List.length_cons]; omega⟩
set_option maxHeartbeats 1000000 in
theorem slicesIndex_is (ns : List ByteArray) (hn : ns.length ≤ 100000000) (s : ByteArray) (v : Value) (w : World) (hv : TV w 0 v ns) :
    Calls Tryz.prog 79 #[v, .string s] w fun e w' => e = .returned (.int .i64 (idxGo ns 0 s)) ∧ w' = w := by
  obtain ⟨ao, cap, rfl, hr⟩ := hv
  have Hr := hid hr
  clear hr
  go_enter Tryz.func79, Tryz.ntmps79
  go_wp2
  go_loopw [8] (fun i wr => ∃ k : Nat, k ≤ ns.length ∧ i = .int .i64 k ∧ Hid (idxGo ns 0 s = idxGo (ns.drop k) k s) ∧ wr = w) (fun i _ => ns.length - (RowKit.intOf i).toNat)
  case atStart => exact ⟨0, by omega, rfl, (by show idxGo ns 0 s = idxGo (ns.drop 0) 0 s; rw [List.drop_zero]), rfl⟩
  case round =>
    obtain ⟨k, hk, rfl, hg, rfl⟩ := hrel
    by_cases hlt : k < ns.length
    · have hltI : (k : Int) < (ns.length : Int) := by omega
      obtain ⟨t, ht⟩ : ∃ t, ns[k]? = some t := ⟨ns[k], List.getElem?_eq_getElem hlt⟩
      rcases Hr.out with hr | ⟨g, off, rfl, _, gl, hc⟩
      · subst hr; simp at hlt
      have A0 := hc k t ht
      have hd : Hid (ns.drop k = t :: ns.drop (k + 1)) := by
        show ns.drop k = t :: ns.drop (k + 1)
        rw [List.drop_eq_getElem_cons hlt]; congr 1; rw [List.getElem?_eq_getElem hlt] at ht; injection ht
      clear hc ht Hr
      by_cases he : t = s
      · have he2 : Hid (idxGo ns 0 s = (k : Int)) := by show idxGo ns 0 s = (k : Int); rw [hg.out, hd.out, idxGo, if_pos he]
        subst he
        go_wp2
        go_ret
        exact ⟨(by rw [he2.out]; try rfl), rfl⟩
      · have he2 : Hid (idxGo ns 0 s = idxGo (ns.drop (k + 1)) (k + 1) s) := by show idxGo ns 0 s = _; rw [hg.out, hd.out, idxGo, if_neg he]
        have hne := str_ne (fun e => he e.symm)
        go_wp2
        go_roundw
        case rel => exact ⟨k + 1, by omega, by go_num, he2.out, trivial⟩
        case measure => simp [RowKit.intOf]; omega
    · have he2 : Hid (idxGo ns 0 s = -1) := by show idxGo ns 0 s = -1; rw [hg.out, List.drop_of_length_le (by omega)]; rfl
      go_wp2
      go_ret
      exact ⟨(by rw [he2.out]; try rfl), rfl⟩
def varN (ns : List ByteArray) (V : List Int) (s : ByteArray) : Int := if idxGo ns 0 s < 0 then 0 else V[(idxGo ns 0 s).toNat]?.getD 0
set_option maxHeartbeats 1000000 in
theorem varWords1_is (ns : List ByteArray) (hn : ns.length ≤ 100000000) (V : List Int) (hV : V.length ≤ 100000000) (s : ByteArray) (nv vv : Value) (p q : Nat) (w : World) (h1 : TV w 0 nv ns) (h2 : IV w 0 vv V) (c1 : w.cell? ⟨p, 0, Option.none⟩ = some nv) (c2 : w.cell? ⟨q, 0, Option.none⟩ = some vv) :
    Calls Tryz.prog 78 #[.string s, .pointer (some ⟨p, 0, Option.none⟩), .pointer (some ⟨q, 0, Option.none⟩)] w fun e w' => e = .returned (.int .i64 (varN ns V s)) ∧ Below w.heap.size w w' := by
  have H1 := hid h1
  have H2 := hid h2
  obtain ⟨a1, b1, rfl⟩ := h1.shape
  obtain ⟨a2, b2, rfl⟩ := h2.shape
  obtain ⟨i, hi⟩ : ∃ i, idxGo ns 0 s = i := ⟨_, rfl⟩
  have HI := hid hi
  have hbd := idxGo_bd s ns 0
  rw [hi] at hbd
  clear h1 h2 hi
  by_cases hi0 : i < 0
  · have hv : Hid (varN ns V s = 0) := show varN ns V s = 0 by rw [varN, HI.out, if_pos hi0]
    go_enter Tryz.func78, Tryz.ntmps78
    go_wp2_with fail
    refine (slicesIndex_is ns hn s _ _ H1.out).mono ?_
    rintro e w1 ⟨rfl, rfl⟩
    rw [HI.out]
    go_wp2
    go_ret
    exact ⟨(by rw [hv.out]; try rfl), Below.refl _ _⟩
  by_cases hi1 : i ≥ (V.length : Int)
  · have hv : Hid (varN ns V s = 0) := show varN ns V s = 0 by rw [varN, HI.out, if_neg hi0, List.getElem?_eq_none (by omega)]; rfl
    go_enter Tryz.func78, Tryz.ntmps78
    go_wp2_with fail
    refine (slicesIndex_is ns hn s _ _ H1.out).mono ?_
    rintro e w1 ⟨rfl, rfl⟩
    rw [HI.out]
    go_wp2
    go_ret
    exact ⟨(by rw [hv.out]; try rfl), Below.refl _ _⟩
  obtain ⟨k, rfl⟩ : ∃ k : Nat, i = (k : Int) := ⟨i.toNat, by omega⟩
  have hkl : k < V.length := by omega
  obtain ⟨x, hx⟩ : ∃ x, V[k]? = some x := ⟨V[k], List.getElem?_eq_getElem hkl⟩
  obtain ⟨g, off, rfl, A0⟩ := H2.out.at hx
  have hv : Hid (varN ns V s = x) := show varN ns V s = x by rw [varN, HI.out, if_neg hi0, Int.toNat_natCast, hx]; rfl
  clear hx
  go_enter Tryz.func78, Tryz.ntmps78
  go_wp2_with fail
  refine (slicesIndex_is ns hn s _ _ H1.out).mono ?_
  rintro e w1 ⟨rfl, rfl⟩
  rw [HI.out]
  go_wp2
  go_ret
  exact ⟨(by rw [hv.out]; try rfl), Below.refl _ _⟩
theorem enters_varWords (args : Array Value) (w : World) : (callFunc 78 args).run Tryz.prog w = .ok (.enter 78 args) w := enters_of Tryz.func78 (by kernel_rfl) rfl args w
def JV (ns : List ByteArray) (V : List Int) (nv vv : Value) (p q : Nat) (w : World) : Prop := TV w 0 nv ns ∧ IV w 0 vv V ∧ w.cell? ⟨p, 0, Option.none⟩ = some nv ∧ w.cell? ⟨q, 0, Option.none⟩ = some vv
theorem lkVars (ns : List ByteArray) (hn : ns.length ≤ 100000000) (V : List Int) (hV : V.length ≤ 100000000) (nv vv : Value) (p q : Nat) : Lk (.func (.func 78) #[] #[.pointer (some ⟨p, 0, Option.none⟩), .pointer (some ⟨q, 0, Option.none⟩)]) (JV ns V nv vv p q) (varN ns V) :=
  ⟨⟨_, _, rfl, enters_varWords, fun w ⟨h1, h2, h3, h4⟩ s => varWords1_is ns hn V hV s nv vv p q w h1 h2 h3 h4⟩, fun w w' ⟨h1, h2, h3, h4⟩ hb => ⟨h1.later hb, h2.later hb, keeps hb h3, keeps hb h4⟩⟩
def opV (k a b : Int) : Int := if k = 4 then wrap32 (wrap32 a + wrap32 b) else if k = 5 then wrap32 (wrap32 a - wrap32 b) else if k = 6 then wrap32 (wrap32 a * wrap32 b) else if k = 7 then (if a < b then a else b) else if a > b then a else b
set_option maxHeartbeats 1000000 in
theorem pairValue_is (k a b : Int) (hk : 4 ≤ k ∧ k ≤ 8) (w : World) :
    Calls Tryz.prog 104 #[.int .i64 k, .int .i64 a, .int .i64 b] w fun e w' => e = .returned (.int .i64 (opV k a b)) ∧ w' = w := by
  have hk' : k = 4 ∨ k = 5 ∨ k = 6 ∨ k = 7 ∨ k = 8 := by omega
  clear hk
  rcases hk' with rfl | rfl | rfl | rfl | rfl
  · go_enter Tryz.func104, Tryz.ntmps104
    go_wp2_with fail
    refine (impl_AddW a b w).mono ?_
    rintro e w1 ⟨rfl, rfl⟩
    go_wp2
    go_ret
    exact ⟨rfl, rfl⟩
  · go_enter Tryz.func104, Tryz.ntmps104
    go_wp2_with fail
    refine (impl_SubW a b w).mono ?_
    rintro e w1 ⟨rfl, rfl⟩
    go_wp2
    go_ret
    exact ⟨rfl, rfl⟩
  · go_enter Tryz.func104, Tryz.ntmps104
    go_wp2_with fail
    refine (impl_MulW a b w).mono ?_
    rintro e w1 ⟨rfl, rfl⟩
    go_wp2
    go_ret
    exact ⟨rfl, rfl⟩
  · have hv : Hid (opV 7 a b = min a b) := show opV 7 a b = min a b by
      by_cases h : a < b
      · simp [opV, h]; omega
      · simp [opV, h]; omega
    go_enter Tryz.func104, Tryz.ntmps104
    go_wp2
    go_ret
    exact ⟨(by rw [hv.out]; try rfl), rfl⟩
  · have hv : Hid (opV 8 a b = max a b) := show opV 8 a b = max a b by
      by_cases h : a > b
      · simp [opV, h]; omega
      · simp [opV, h]; omega
    go_enter Tryz.func104, Tryz.ntmps104
    go_wp2
    go_ret
    exact ⟨(by rw [hv.out]; try rfl), rfl⟩
theorem arrGo_bd (s : ByteArray) : ∀ (ts : List AR) (k : Nat), arrGo ts k s = -1 ∨ ((k : Int) ≤ arrGo ts k s ∧ arrGo ts k s < (k : Int) + ts.length)
  | [], _ => .inl rfl
  | t :: ts, k => by
    rw [arrGo]
    split
    · exact .inr ⟨by omega, by simp; omega⟩
    · rcases arrGo_bd s ts (k + 1) with h | ⟨h1, h2⟩
      · exact .inl h
      · exact .inr ⟨by omega, by simp only [List.length_cons]; omega⟩
def inA (ts : List AR) (A : List (List Int)) (s : ByteArray) (p : Int) : Option Int :=
  if arrGo ts 0 s < 0 then none else if p < 0 then none else (A[(arrGo ts 0 s).toNat]?).bind fun xs => xs[p.toNat]?
def SpotAt (w : World) (sa : Value) (ts : List AR) (s : ByteArray) (p x : Int) (ad : Addr) : Prop :=
  ∃ (k m go oo sl sc g off len c : Nat), arrGo ts 0 s = (k : Int) ∧ p = (m : Int) ∧ sa = .slice (some ⟨go, oo, Option.none⟩) sl sc ∧ w.cell? ⟨go, oo + k, Option.none⟩ = some (.slice (some ⟨g, off, Option.none⟩) len c) ∧ ad = ⟨g, off + m, Option.none⟩ ∧ w.cell? ad = some (.int .i64 x)
def SpotR (w : World) (sa : Value) (ts : List AR) (A : List (List Int)) (s : ByteArray) (p : Int) (e : Ending) : Prop :=
  (inA ts A s p = none ∧ e = .returned (.pointer Option.none)) ∨ ∃ x ad, inA ts A s p = some x ∧ e = .returned (.pointer (some ad)) ∧ SpotAt w sa ts s p x ad
structure PS (w w' : World) (N : Nat) (va vb sa sv so : Value) (en : Int) : Prop where
  p : w'.heap[N]? = some (.cells #[va, vb] 27 (0, 0))
  q : w'.heap[N + 1]? = some (.cells #[sa, sv, so, .int .i64 en] 33 (0, 0))
  b : Below w.heap.size w w'
theorem PS.start (w : World) (va vb sa sv so : Value) (en : Int) : PS w ((w.alloc (.cells #[va, vb] 27)).alloc (.cells #[sa, sv, so, .int .i64 en] 33)) w.heap.size va vb sa sv so en :=
  ⟨by rw [Below.heap_alloc _ _ _ (by simp)]; exact blkLast _ _,
   (congrArg (fun n => ((w.alloc (.cells #[va, vb] 27)).alloc (.cells #[sa, sv, so, .int .i64 en] 33)).heap[n]?) (show w.heap.size + 1 = (w.alloc (.cells #[va, vb] 27)).heap.size by simp)).trans (blkLast _ _),
   (alloc_below w _).alloc (by simp) _⟩
theorem PS.later {w w1 w2 : World} {N : Nat} {va vb sa sv so : Value} {en : Int} (h : PS w w1 N va vb sa sv so en) (hb : Below w1.heap.size w1 w2) : PS w w2 N va vb sa sv so en :=
  ⟨(hb.block _ (lt_heap h.p)).trans h.p, (hb.block _ (lt_heap h.q)).trans h.q, h.b.trans (hb.mono h.b.size)⟩
theorem sizeProg2 : (Tryz.prog.info? 27).map (·.size) = some 2 := by kernel_rfl
theorem sizeSto2 : (Tryz.prog.info? 33).map (·.size) = some 4 := by kernel_rfl
set_option maxHeartbeats 2000000 in
set_option maxRecDepth 100000 in
theorem spotOf_is (ts : List AR) (hn : ts.length ≤ 1048576) (A : List (List Int)) (hA : A.length ≤ 100000000) (hAi : ∀ xs ∈ A, xs.length ≤ 100000000) (s : ByteArray) (p : Int) (va vb sa sv so : Value) (en : Int) (hvb : vb.oneCell' = true) (hsv : sv.oneCell' = true) (hso : so.oneCell' = true) (w : World) (ha : AV w 0 va ts) (hi : IIV w 0 sa A) :
    Calls Tryz.prog 153 #[.agg #[va, vb], .agg #[sa, sv, so, .int .i64 en], .string s, .int .i64 p] w fun e w' => SpotR w sa ts A s p e ∧ Below w.heap.size w w' := by
  have HA := hid ha
  have HI := hid hi
  obtain ⟨a1, b1, rfl⟩ := ha.shape
  obtain ⟨a2, b2, rfl⟩ := hi.shape
  have P0 := hid (PS.start w (.slice a1 ts.length b1) vb (.slice a2 A.length b2) sv so en)
  have RP : Hid (((w.alloc (.cells #[.slice a1 ts.length b1, vb] 27)).alloc (.cells #[.slice a2 A.length b2, sv, so, .int .i64 en] 33)).rangeAt w.heap.size 0 [.slice a1 ts.length b1, vb]) := blk_range P0.out.p
  obtain ⟨i, hiv⟩ : ∃ i, arrGo ts 0 s = i := ⟨_, rfl⟩
  have HV := hid hiv
  have hbd := arrGo_bd s ts 0
  rw [hiv] at hbd
  clear ha hi hiv
  go_enter Tryz.func153, Tryz.ntmps153
  go_wp2_with (refine wpList_load_mid rfl 27 _ rfl w.heap.size 0 rfl _ _ RP.out Tryz.underlying27 rfl sizeProg2 ?_)
  refine (impl_ArrAt ts hn s _ _ hvb _ (HA.out.later P0.out.b)).mono ?_
  rintro e w1 ⟨rfl, hb1⟩
  rw [HV.out]
  have P1 := hid (P0.out.later hb1)
  have I1 := hid (HI.out.later P1.out.b)
  obtain ⟨⟨q0, _, _, _⟩, _⟩ := blk4 P1.out.q
  clear hb1 P0 RP
  by_cases h0 : i < 0
  · have hr : Hid (inA ts A s p = none) := show inA ts A s p = none by rw [inA, HV.out, if_pos h0]
    go_wp2
    go_ret
    exact ⟨.inl ⟨hr.out, rfl⟩, P1.out.b⟩
  by_cases h1 : i ≥ (A.length : Int)
  · have hr : Hid (inA ts A s p = none) := show inA ts A s p = none by
      rw [inA, HV.out, if_neg h0]
      split
      · rfl
      · rw [List.getElem?_eq_none (by omega)]; rfl
    go_wp2
    go_ret
    exact ⟨.inl ⟨hr.out, rfl⟩, P1.out.b⟩
  by_cases h2 : p < 0
  · have hr : Hid (inA ts A s p = none) := show inA ts A s p = none by rw [inA, HV.out, if_neg h0, if_pos h2]
    go_wp2
    go_ret
    exact ⟨.inl ⟨hr.out, rfl⟩, P1.out.b⟩
  obtain ⟨k, rfl⟩ : ∃ k : Nat, i = (k : Int) := ⟨i.toNat, by omega⟩
  obtain ⟨m, rfl⟩ : ∃ m : Nat, p = (m : Int) := ⟨p.toNat, by omega⟩
  obtain ⟨xs, hxs⟩ : ∃ xs, A[k]? = some xs := ⟨A[k]'(by omega), List.getElem?_eq_getElem _⟩
  have hkl : (k : Int) < (A.length : Int) := by omega
  obtain ⟨g, off, u, rfl, A0, hu⟩ := I1.out.at hxs
  have A0w : Hid (w.cell? ⟨g, off + k, Option.none⟩ = some u) := by
    obtain ⟨g', off', u', e, c, _⟩ := HI.out.at hxs
    injection e with e
    injection e with e1 e2
    subst e1; subst e2
    have := keeps P1.out.b c
    rw [A0] at this
    show w.cell? ⟨g, off + k, Option.none⟩ = some u
    rw [c, this]
  have hxl := hAi xs (List.mem_of_getElem? hxs)
  have Hu := hid hu
  obtain ⟨pa, qa, rfl⟩ := hu.shape
  by_cases h3 : (m : Int) ≥ (xs.length : Int)
  · have hr : Hid (inA ts A s (m : Int) = none) := show inA ts A s (m : Int) = none by
      rw [inA, HV.out, if_neg h0, if_neg h2, Int.toNat_natCast, Int.toNat_natCast, hxs]
      exact List.getElem?_eq_none (by omega)
    clear hxs hu
    go_wp2
    go_ret
    exact ⟨.inl ⟨hr.out, rfl⟩, P1.out.b⟩
  obtain ⟨x, hx⟩ : ∃ x, xs[m]? = some x := ⟨xs[m]'(by omega), List.getElem?_eq_getElem _⟩
  have hml : (m : Int) < (xs.length : Int) := by omega
  obtain ⟨g2, off2, rfl, B0⟩ := Hu.out.at hx
  have hr : Hid (inA ts A s (m : Int) = some x) := show inA ts A s (m : Int) = some x by
    rw [inA, HV.out, if_neg h0, if_neg h2, Int.toNat_natCast, Int.toNat_natCast, hxs]
    exact hx
  have B0w : Hid (w.cell? ⟨g2, off2 + m, Option.none⟩ = some (.int .i64 x)) := by
    obtain ⟨g', off', u', e, c, hu'⟩ := HI.out.at hxs
    injection e with e
    injection e with e1 e2
    subst e1; subst e2
    have e3 : some u' = some _ := c.symm.trans A0w.out
    injection e3 with e3
    subst e3
    obtain ⟨g3, off3, e4, c4⟩ := hu'.at hx
    injection e4 with e4
    injection e4 with e5 e6
    subst e5; subst e6
    exact c4
  clear hxs hx hu
  go_wp2
  go_ret
  exact ⟨.inr ⟨x, _, hr.out, rfl, ⟨k, m, g, off, _, _, g2, off2, _, _, HV.out, rfl, rfl, A0w.out, rfl, B0w.out⟩⟩, P1.out.b⟩
set_option maxHeartbeats 1000000 in
set_option maxRecDepth 100000 in
theorem sameTop_is (x y : X) (va vb : Value) (w : World) :
    Calls Tryz.prog 207 #[.agg (xcells x va).toArray, .agg (xcells y vb).toArray] w fun e w' => e = .returned (.bool (hsame x.h y.h)) ∧ Below w.heap.size w w' := by
  obtain ⟨⟨xk, xn, xs⟩, xl⟩ := x
  obtain ⟨⟨yk, yn, ys⟩, yl⟩ := y
  show Calls Tryz.prog 207 #[.agg #[.int .i64 xk, .int .i64 xn, .string xs, va], .agg #[.int .i64 yk, .int .i64 yn, .string ys, vb]] w _
  have hB : Hid (∀ a b, Below w.heap.size w ((w.alloc a).alloc b)) := fun a b => (alloc_below w a).alloc (by simp) b
  by_cases hk : xk = yk
  case neg =>
    have hf : Hid (hsame ⟨xk, xn, xs⟩ ⟨yk, yn, ys⟩ = false) := show hsame _ _ = false by simp [hsame, hk]
    have h1 := int_ne hk
    go_enter Tryz.func207, Tryz.ntmps207
    go_wp2
    go_ret
    exact retB hf.out (hB.out _ _)
  by_cases hn : xn = yn
  case neg =>
    have hf : Hid (hsame ⟨xk, xn, xs⟩ ⟨yk, yn, ys⟩ = false) := show hsame _ _ = false by simp [hsame, hn]
    have h1 := int_ne hn
    subst hk
    go_enter Tryz.func207, Tryz.ntmps207
    go_wp2
    go_ret
    exact retB hf.out (hB.out _ _)
  by_cases hs : xs = ys
  case neg =>
    have hf : Hid (hsame ⟨xk, xn, xs⟩ ⟨yk, yn, ys⟩ = false) := show hsame _ _ = false by simp [hsame, hs]
    have h1 := str_ne hs
    subst hk
    subst hn
    clear hs
    go_enter Tryz.func207, Tryz.ntmps207
    go_wp2
    go_ret
    exact retB hf.out (hB.out _ _)
  subst hk
  subst hn
  subst hs
  have hf : Hid (hsame ⟨xk, xn, xs⟩ ⟨xk, xn, xs⟩ = true) := show hsame _ _ = true by simp [hsame]
  go_enter Tryz.func207, Tryz.ntmps207
  go_wp2
  go_ret
  exact retB hf.out (hB.out _ _)
abbrev NumAt (w : World) (b : Nat) (c : Int) : Prop := w.heap[b]? = some (.cells #[.int .i64 c] 3 (0, 0))
theorem below_boxset {w : World} {cb : Nat} {o : Obj} {c d : Int} (hc : NumAt w cb c) : NumAt ((w.setCell ⟨cb, 0, Option.none⟩ (.int .i64 d)).alloc o) cb d ∧ Gap cb (cb + 1) w ((w.setCell ⟨cb, 0, Option.none⟩ (.int .i64 d)).alloc o) := by
  have hlt := lt_of_block hc
  refine ⟨(Below.heap_alloc _ _ cb (by simpa using hlt)).trans (one_setCell hc), rfl, rfl, rfl, by simp, fun k hk hk2 => ?_⟩
  rw [Below.heap_alloc _ _ _ (by simpa using hk), Below.heap_setCell _ _ _ _ (show k ≠ cb by omega)]
set_option maxHeartbeats 1000000 in
set_option maxRecDepth 100000 in
theorem cntS_is (h : SH) (v1 v2 v3 v4 v : Value) (w : World) (cb : Nat) (c : Nat) (hc : NumAt w cb (c : Int)) (hs : c < 10000000) :
    Calls Tryz.prog 198 #[sagg h v1 v2 v3 v4 v, .pointer (some ⟨cb, 0, Option.none⟩)] w fun e w' => e = .returned (.tuple #[]) ∧ NumAt w' cb (c + 1 : Nat) ∧ Gap cb (cb + 1) w w' := by
  have H := hid (fun (o : Obj) (d : Int) => below_boxset (o := o) (d := d) hc)
  have hlt := lt_of_block hc
  have c1 : ∀ o, (w.alloc o).cell? ⟨cb, 0, Option.none⟩ = some (.int .i64 (c : Int)) := fun o => cell_of_one ((Below.heap_alloc _ _ cb hlt).trans hc)
  have c2 : ∀ o, (w.alloc o).frozen? ⟨cb, 0, Option.none⟩ = false := fun o => free_of_one ((Below.heap_alloc _ _ cb hlt).trans hc)
  have hsI : (c : Int) + 1 ≤ 10000000 := by omega
  clear hc
  go_enter Tryz.func198, Tryz.ntmps198
  go_wp2
  go_end0
  exact ⟨rfl, H.out _ _⟩
theorem new_num (w : World) (c : Int) : NumAt (w.alloc (.cells #[.int .i64 c] 3)) w.heap.size c ∧ Below w.heap.size w (w.alloc (.cells #[.int .i64 c] 3)) := ⟨by show (w.heap.push _)[w.heap.size]? = _; simp, alloc_below _ _⟩
theorem gap_own {w W w' : World} (hb : Below w.heap.size w W) (hg : Gap w.heap.size W.heap.size W w') : Below w.heap.size w w' := hb.trans (hg.below (Nat.le_refl _) hb.size)
set_option maxHeartbeats 1000000 in
set_option maxRecDepth 100000 in
theorem countAllS_is (F : SF) (hF : snodes F ≤ 10000000) (w : World) (v : Value) (hv : SV w 0 F v) :
    Calls Tryz.prog 172 #[v, .func (.func 134) #[] #[]] w fun e w' => e = .returned (.int .i64 (snodes F : Int)) ∧ Below w.heap.size w w' := by
  have hmf : ∀ (fn : Fn) (first cap : Array Value) (w : World), (Instr.makeFunc fn first cap).run Tryz.prog w = .ok (.func fn first cap) w := fun _ _ _ _ => rfl
  have N := hid (new_num w 0)
  have Hv := hid (fun (W : World) (hN : NumAt W w.heap.size 0) (hb : Below w.heap.size w W) (hW : W.heap.size = w.heap.size + 1) =>
    visitAllS_is F hF w W hb w.heap.size (w.heap.size + 1) (Nat.le_refl _) (by omega) v hv 198 (fun _ _ => rfl) #[.pointer (some ⟨w.heap.size, 0, Option.none⟩)] (fun vs w' => NumAt w' w.heap.size (vs.length : Int))
      (fun vs w1 w2 hj _ hk => (hk _ (Nat.le_refl _) (Nat.lt_succ_self _)).trans hj) hN (fun vs h l v1 v2 v3 v4 u w1 hj _ _ _ _ _ hl => (cntS_is h v1 v2 v3 v4 u w1 _ vs.length hj (by omega)).mono (by
        rintro e w2 ⟨rfl, h1, h2⟩
        refine ⟨rfl, ?_, h2⟩
        show NumAt w2 w.heap.size ((vs ++ [(h, l)]).length : Int)
        rw [List.length_append]; exact h1)))
  go_enter Tryz.func172, Tryz.ntmps172
  go_wp2_with fail
  refine (Hv.out _ N.out.1 N.out.2 (by simp)).mono ?_
  rintro e w1 ⟨rfl, ⟨vs, hj, hp⟩, hg⟩
  have hl : (vs.length : Int) = (snodes F : Int) := by rw [hp.length_eq, sall_len]
  have hcell := cell_of_one hj
  have hB := hid (gap_own N.out.2 (hg.wider (Nat.le_refl _) (by simp)))
  clear hj hp hg N Hv
  rw [hl] at hcell
  go_wp2
  go_ret
  exact ⟨rfl, hB.out⟩
theorem impl_Size (F : SF) (hF : snodes F ≤ 10000000) (w : World) (v : Value) (hv : SV w 0 F v) :
    Calls Tryz.prog 129 #[v] w fun e w' => e = .returned (.int .i64 (snodes F : Int)) ∧ Below w.heap.size w w' := by
  go_enter Tryz.func129, Tryz.ntmps129
  go_wp2_with (go_at_call 172; refine (countAllS_is F hF w v hv).mono ?_; rintro e w1 ⟨rfl, hb1⟩)
  go_ret
  exact ⟨rfl, hb1⟩
end Go.Proofs.YtfoghiminlbdaaaGreat
